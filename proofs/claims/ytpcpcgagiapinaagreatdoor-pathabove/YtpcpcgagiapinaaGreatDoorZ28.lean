/- Texts joined: PcL PcD. -/
import Derived.Test.YtpcpcgagiapinaaGreatDoorZ27
import Derived.RangeFuncNested
import Derived.RangeFuncBound
import Derived.RangeFuncCalls
import Derived.RangeFuncLeaves
import Derived.OwnWalkIn
import Derived.TacticsInMore
import Derived.LoopNIn
import Derived.LoopIn
/- A law for a range over a function of one's own: its body may change whatever lies ahead of the loop and make new maps; it keeps the loop's own two blocks. -/
namespace Go.Proofs.YtpcpcgagiapinaaGreatDoor.Tn.Pa
open Go.RowKit Go.Maps
def isLp : Obj → Bool
  | .loop _ => true
  | .deferred _ => true
  | _ => false
abbrev resI (qv : Value) (ql : List Int) : Res := resW 3 1 qv ql.length (ql.map I64)
def SeqN (P : Program) (gf : Nat) (lb : Array Value) (N : Nat) (enc : Nat → Array Value) (K0 : World → Prop) (W : World) : Prop :=
  ∀ (l : Nat) (J : Nat → Value → List Int → World → Prop) (Jx : Nat → World → Prop) (X : World), Below W.heap.size W X → (∀ i qv ql A B, J i qv ql A → Below A.heap.size A B → J i qv ql B) →
    (∀ i qv ql A B, J i nilV [] A → Below A.heap.size A B → Ints A.heap.size B qv ql → J i qv ql B) → (∀ i qv ql A, J i qv ql A → Ints 0 A qv ql) →
    (∀ i qv ql W1, i < N → J i qv ql W1 → K0 W1 → YieldAt Fence.wide 0 P l (enc i) W1 fun e W' => (e = .returned (.bool true) ∧ J (i + 1) qv ql W' ∧ K0 W') ∨ (e = .returned (.bool false) ∧ Jx i W')) →
    J 0 nilV [] X → CallsIn Fence.wide 1 P gf (#[.func (.yield l) #[] #[]] ++ lb) X fun e W' => (∃ v, e = .returned v) ∧ ((∃ qv ql, J N qv ql W') ∨ ∃ i, i < N ∧ Jx i W')
def postN (I : Nat → Value → List Int → World → Prop) (Ix : Nat → World → Prop) (K0 : World → Prop) (D l i : Nat) (qv : Value) (ql : List Int) (W : World) : Exit → Act → World → Prop
  | .normal, _, W' => W'.heap[l]? = W.heap[l]? ∧ W'.heap[D]? = W.heap[D]? ∧ K0 W' ∧ I (i + 1) qv ql W'
  | .ret, _, W' => W'.heap[l]? = W.heap[l]? ∧ W'.heap[D]? = W.heap[D]? ∧ Ix i W'
  | _, _, _ => False
theorem range_own {P : Program} {gf : Nat} {lb : Array Value} {N : Nat} {enc : Nat → Array Value} {K0 : World → Prop} {g : Operand} {ps : Array Tmp} {assign body : Code} {Q : Exit → Act → World → Prop} {a : Act} {w : World} (hseq : SeqN P gf lb N enc K0 w)
    (hg : a.eval g = .func (.func gf) #[] lb) (eg : ∀ args w, (callFunc gf args).run P w = .ok (.enter gf args) w) (hps : ∀ i, (enc i).size = ps.size)
    (I : Nat → Value → List Int → World → Prop) (Ix : Nat → World → Prop) (hIa : ∀ i qv ql A B, I i qv ql A → Below A.heap.size A B → I i qv ql B) (hIn : ∀ i qv ql A B, I i nilV [] A → Below A.heap.size A B → Ints A.heap.size B qv ql → I i qv ql B) (hIh : ∀ i qv ql A, I i qv ql A → Ints 0 A qv ql) (hIl : ∀ i qv ql A b o o', w.heap.size ≤ b → I i qv ql A → A.heap[b]? = some o → isLp o = true → I i qv ql (A.putObj b o')) (hXl : ∀ i A b o o', w.heap.size ≤ b → Ix i A → A.heap[b]? = some o → isLp o = true → Ix i (A.putObj b o'))
    (hKl : ∀ A b o o', w.heap.size ≤ b → K0 A → A.heap[b]? = some o → isLp o = true → K0 (A.putObj b o')) (h0 : I 0 nilV [] w) (a₁ : Nat → Act)
    (hassign : ∀ (l i : Nat) (W : World) (K : Act → World → Prop), K (a₁ i) W → assign.wpIn (Fence.wide.inRound l) 0 P (Exit.then K (fun _ _ _ => False)) { tmps := (ps.zip (enc i)).foldl (fun t (p, v) => t.setIfInBounds p v) a.tmps, defers := [] } W)
    (hbody : ∀ (D l i : Nat) (qv : Value) (ql : List Int) (W : World) (r : Loop), w.heap.size ≤ D → l = D + 1 → i < N → I i qv ql W → K0 W → W.heap[l]? = some (.loop r) → W.heap[D]? = some (.deferred (some [])) → body.wpIn (Fence.wide.inRound l) 0 P (postN I Ix K0 D l i qv ql W) (a₁ i) W)
    (hdone : ∀ (D : Nat) (qv : Value) (ql : List Int) (W : World), w.heap.size ≤ D → I N qv ql W → W.heap[D]? = some (.deferred (some [])) → Q .normal { a with defers := { target := .collected D, args := #[] } :: a.defers } W)
    (hstop : ∀ (D i : Nat) (W : World), w.heap.size ≤ D → i < N → Ix i W → W.heap[D]? = some (.deferred (some [])) → Code.ret.wpIn Fence.wide 2 P Q { a with defers := { target := .collected D, args := #[] } :: a.defers } W) :
    (Code.rangeFunc g ps assign body).wp P Q a w := by
  refine (wpIn_wide (n := 2)).1 (wpIn_rangeFunc ?_)
  intro fn hfn
  obtain ⟨rec, hrec⟩ : ∃ rec : LoopState → Option Code → Loop, rec = fun st pe => { state := st, pending := pe, fn, tmps := a.tmps, params := ps, assign, body, defers := w.heap.size } := ⟨_, rfl⟩
  obtain ⟨W1, hW1⟩ : ∃ W1, W1 = (w.alloc (.deferred (some []))).alloc (.loop (rec .ready none)) := ⟨_, rfl⟩
  have hl1 : W1.heap[w.heap.size + 1]? = some (.loop (rec .ready none)) := by
    have := heap_alloc_new (w.alloc (.deferred (some []))) (.loop (rec .ready none))
    rw [World.size_alloc] at this
    rw [hW1]; exact this
  have hD1 : W1.heap[w.heap.size]? = some (.deferred (some [])) := by
    rw [hW1, Below.heap_alloc _ _ _ (by simp)]; exact heap_alloc_new _ _
  have hb1 : Below w.heap.size w W1 := by rw [hW1]; exact ((Below.refl _ _).alloc (Nat.le_refl _) _).alloc (by simp) _
  refine ⟨w.heap.size + 1, [{ target := .collected w.heap.size, args := #[] }], W1, { target := .fn (.func gf) lb, args := #[.func (.yield (w.heap.size + 1)) #[] #[]] }, W1, gf, #[.func (.yield (w.heap.size + 1)) #[] #[]] ++ lb, W1, ?_, ?_, fun _ _ => trivial, ?_, (fun h => by cases h), ?_⟩
  · rw [hW1, hrec]; exact run_enterLoop_outer _ _ _ _ _
  · simp only [resolve, hg]
    simp [go_sem]
  · simp [invoke, go_sem, eg]
  · refine (hseq (w.heap.size + 1) (fun i qv ql W => I i qv ql W ∧ W.heap[w.heap.size + 1]? = some (.loop (rec .ready none)) ∧ W.heap[w.heap.size]? = some (.deferred (some []))) (fun i W => Ix i W ∧ W.heap[w.heap.size + 1]? = some (.loop (rec .done (some .ret))) ∧ W.heap[w.heap.size]? = some (.deferred (some []))) W1 hb1 ?_ ?_ ?_ ?_ ⟨hIa 0 _ _ w W1 h0 hb1, hl1, hD1⟩).mono ?_
    · rintro i qv ql A B ⟨q1, q2, q3⟩ hb
      exact ⟨hIa i qv ql A B q1 hb, (hb.block _ (lt_of_blk q2)).trans q2, (hb.block _ (lt_of_blk q3)).trans q3⟩
    · rintro i qv ql A B ⟨q1, q2, q3⟩ hb hq
      exact ⟨hIn i qv ql A B q1 hb hq, (hb.block _ (lt_of_blk q2)).trans q2, (hb.block _ (lt_of_blk q3)).trans q3⟩
    · rintro i qv ql A ⟨q1, q2, q3⟩
      exact hIh i qv ql A q1
    · rintro i qv ql W hiN ⟨hi, hl, hD⟩ hK
      have hlt := lt_of_blk hl
      have hy := run_yield (P := P) (args := enc i) hl (by rw [hrec]; exact hps i)
      rw [hrec] at hy
      refine ⟨fn, _, assign, body, hy, roundIn_of_wpIn hfn (hassign _ i W _ ⟨_, run_beginRound hl (by rw [hrec]), ?_⟩)⟩
      obtain ⟨X, hX⟩ : ∃ X, X = W.putObj (w.heap.size + 1) (.loop { rec .ready none with state := .busy }) := ⟨_, rfl⟩
      have hlX : X.heap[w.heap.size + 1]? = some (.loop { rec .ready none with state := .busy }) := by rw [hX]; exact World.putObj_heap_same hlt
      have hDX : X.heap[w.heap.size]? = some (.deferred (some [])) := by rw [hX, World.putObj_heap_other (by omega)]; exact hD
      rw [← hX]
      refine wpIn_mono (hbody w.heap.size _ i qv ql X _ (Nat.le_refl _) rfl hiN (by rw [hX]; exact hIl i qv ql W _ _ _ (by omega) hi hl rfl) (by rw [hX]; exact hKl W _ _ _ (by omega) hK hl rfl) hlX hDX) ?_
      rintro e a3 W3 hp
      cases e with
      | normal =>
        obtain ⟨k1, k2, k3, k4⟩ := hp
        have hl3 : W3.heap[w.heap.size + 1]? = _ := k1.trans hlX
        have hr := run_endRound (P := P) none hl3
        refine ⟨_, _, hr, Or.inl ⟨rfl, ⟨hIl _ _ _ _ _ _ _ (by omega) k4 hl3 rfl, ?_, ?_⟩, hKl _ _ _ _ (by omega) k3 hl3 rfl⟩⟩
        · rw [World.putObj_heap_same (lt_of_blk hl3), hrec]; rfl
        · rw [World.putObj_heap_other (by omega)]; exact k2.trans hDX
      | ret =>
        obtain ⟨k1, k2, k4⟩ := hp
        have hl3 : W3.heap[w.heap.size + 1]? = _ := k1.trans hlX
        have hr := run_endRound (P := P) (some .ret) hl3
        refine ⟨_, _, hr, Or.inr ⟨rfl, hXl _ _ _ _ _ (by omega) k4 hl3 rfl, ?_, ?_⟩⟩
        · rw [World.putObj_heap_same (lt_of_blk hl3), hrec]; rfl
        · rw [World.putObj_heap_other (by omega)]; exact k2.trans hDX
      | exit id => exact hp.elim
      | goto t => exact hp.elim
      | panic ch => exact hp.elim
      | outgrown => exact hp.elim
    · rintro e W2 ⟨⟨v, rfl⟩, ⟨qv, ql, hi, hl, hD⟩ | ⟨i, hiN, hi, hl, hD⟩⟩
      · have he := run_endLoop (P := P) hl (by rw [hrec]; simp)
        refine ⟨none, _, by rw [hrec] at he; exact he, hdone w.heap.size qv ql _ (Nat.le_refl _) (hIl _ _ _ _ _ _ _ (by omega) hi hl rfl) ?_⟩
        rw [World.putObj_heap_other (by omega)]; exact hD
      · have he := run_endLoop (P := P) hl (by rw [hrec]; simp)
        refine ⟨some .ret, _, by rw [hrec] at he; exact he, hstop w.heap.size i _ (Nat.le_refl _) hiN (hXl _ _ _ _ _ (by omega) hi hl rfl) ?_⟩
        rw [World.putObj_heap_other (by omega)]; exact hD
def Solid (r : Res) : Prop := ∀ W, r.P W → ∀ x ∈ r.Z, ∀ o, W.heap[x]? = some o → isLp o = false
theorem solid_W (e : TypeId) (c : Nat) (v : Value) (n : Nat) (xs : List Value) : Solid (resW e c v n xs) := fun W h x hx o ho => by
  obtain ⟨cur, hb⟩ := own_kind (show W.ownsRow 0 e c v n xs from h) (k := x) (by simpa [resW] using hx)
  rw [hb] at ho; injection ho with ho; subst ho; rfl
theorem solid_C (k : Nat) (cs : Array Value) (t : TypeId) : Solid (resC k cs t) := fun W h x hx o ho => by
  simp [resC] at hx; subst hx
  rw [show W.heap[x]? = some (.cells cs t (0, 0)) from h] at ho; injection ho with ho; subst ho; rfl
theorem solid_S (b : Nat) (sv : Value) (mb : Nat) (L : List Tm) : Solid (resS b sv mb L) := fun W h x hx o ho => by
  have h : St W b sv mb L := h
  rcases mem_foot.1 (show x ∈ foot b sv mb from hx) with rfl | rfl | c
  · rw [h.blk] at ho; injection ho with ho; subst ho; rfl
  · obtain ⟨es, cl, e⟩ := h.map.block; rw [e] at ho; injection ho with ho; subst ho; rfl
  · obtain ⟨cur, e⟩ := h.row.block c; rw [e] at ho; injection ho with ho; subst ho; rfl
theorem fr_putObj (A : World) (b : Nat) (o' : Obj) : Fr [b] A (A.putObj b o') := ⟨rfl, rfl, rfl, by simp [World.putObj], fun k _ hn => World.putObj_heap_other (fun c => hn (by simp [c]))⟩
theorem EF.putL {F : List Nat} {w A : World} {rs : List Res} {b : Nat} {o o' : Obj} (h : EF F w A rs) (hs : ∀ r ∈ rs, Solid r) (ho : A.heap[b]? = some o) (hl : isLp o = true) (hb : w.heap.size ≤ b) : EF F w (A.putObj b o') rs := by
  refine ⟨h.fr.trans (fr_putObj A b o') (fun _ _ c => c) (fun x hx c => by simp at c; omega), fun r hr => ?_, h.low, h.dis⟩
  refine r.keep A _ [b] (h.hold r hr) (fr_putObj A b o') (fun x hx c => ?_)
  simp at c; subst c
  have := hs r hr A (h.hold r hr) x hx o ho
  rw [this] at hl; cases hl
def resL (D l : Nat) (o1 o2 : Obj) : Res := ⟨[D, l], fun w => w.heap[D]? = some o1 ∧ w.heap[l]? = some o2, fun w w' S h hf hd => ⟨(hf.block D (lt_of_blk h.1) (hd D (by simp))).trans h.1, (hf.block l (lt_of_blk h.2) (hd l (by simp))).trans h.2⟩, fun w h x hx => by simp at hx; rcases hx with rfl | rfl; exact lt_of_blk h.1; exact lt_of_blk h.2⟩
theorem EF.addL {F : List Nat} {w A : World} {rs : List Res} {D l : Nat} {o1 o2 : Obj} (h : EF F w A rs) (hs : ∀ r ∈ rs, Solid r) (h1 : A.heap[D]? = some o1) (h2 : A.heap[l]? = some o2) (l1 : isLp o1 = true) (l2 : isLp o2 = true) (b1 : w.heap.size ≤ D) (b2 : w.heap.size ≤ l) : EF F w A (resL D l o1 o2 :: rs) := by
  refine ⟨h.fr, ?_, ?_, ?_⟩
  · intro r hr
    rcases List.mem_cons.1 hr with rfl | hr
    · exact ⟨h1, h2⟩
    · exact h.hold r hr
  · intro r hr x hx
    rcases List.mem_cons.1 hr with rfl | hr
    · simp [resL] at hx; rcases hx with rfl | rfl <;> exact Or.inr (by assumption)
    · exact h.low r hr x hx
  · refine List.Pairwise.cons (fun s hsm x hx c => ?_) h.dis
    simp [resL] at hx
    rcases hx with rfl | rfl
    · have := hs s hsm A (h.hold s hsm) x c _ h1; rw [this] at l1; cases l1
    · have := hs s hsm A (h.hold s hsm) x c _ h2; rw [this] at l2; cases l2
end Go.Proofs.YtpcpcgagiapinaaGreatDoor.Tn.Pa

/- The nodes above one that are not blank, as path.above hands them on. -/
namespace Go.Proofs.YtpcpcgagiapinaaGreatDoor.Tn.Pa
open Go.RowKit Go.Maps
attribute [local go_sem] Oper.semAt_some
def ovL (T : List Nd) (d : List Int) : List Int := d.filter fun y => Go.Proofs.YtpcpcgagiapinaaGreatDoor.pos (ndAt T y.toNat)
def ov (T : List Nd) (x : Int) : List Int := ovL T (dir x (nlv T : Nat))
theorem fin_dir : (sizes.all fun n => (List.range (2 * n - 1)).all fun x => (dir ((x : Nat) : Int) (n : Nat)).all (fun y => decide (0 ≤ y) && decide (y < ((2 * n - 1 : Nat) : Int))) && decide ((dir ((x : Nat) : Int) (n : Nat)).length ≤ 3)) = true := by decide +kernel
theorem dir_in {T : List Nd} (ok : Ok T) {x : Nat} (hx : x < T.length) : (∀ y ∈ dir (x : Int) (nlv T : Nat), ∃ m : Nat, y = (m : Int) ∧ m < T.length) ∧ (dir (x : Int) (nlv T : Nat)).length ≤ 3 := by
  obtain ⟨g1, g2, g3, g4, g5⟩ := ok.wd.facts
  have h := List.all_eq_true.1 (List.all_eq_true.1 fin_dir _ g1) x (List.mem_range.2 (by omega))
  simp only [Bool.and_eq_true, List.all_eq_true, decide_eq_true_eq] at h
  refine ⟨fun y hy => ?_, h.2⟩
  obtain ⟨h1, h2⟩ := h.1 y hy
  exact ⟨y.toNat, by omega, by omega⟩
theorem ovL_snoc (T : List Nd) (d : List Int) (k : Nat) {y : Int} (h : d[k]? = some y) : ovL T (d.take (k + 1)) = ovL T (d.take k) ++ (if Go.Proofs.YtpcpcgagiapinaaGreatDoor.pos (ndAt T y.toNat) = true then [y] else []) := by
  unfold ovL
  rw [List.take_add_one, h, List.filter_append]
  congr 1
  simp only [Option.toList_some]
  split <;> simp [*]
theorem ovL_at (T : List Nd) (d : List Int) (k : Nat) {y : Int} (h : d[k]? = some y) (hp : Go.Proofs.YtpcpcgagiapinaaGreatDoor.pos (ndAt T y.toNat) = true) : (ovL T d)[(ovL T (d.take k)).length]? = some y := by
  have e : ovL T d = ovL T (d.take (k + 1)) ++ ovL T (d.drop (k + 1)) := by
    unfold ovL; rw [← List.filter_append, List.take_append_drop]
  rw [e, ovL_snoc T d k h, if_pos hp, List.append_assoc, List.getElem?_append_right (Nat.le_refl _)]
  simp
theorem ovL_lt (T : List Nd) (d : List Int) (k : Nat) {y : Int} (h : d[k]? = some y) (hp : Go.Proofs.YtpcpcgagiapinaaGreatDoor.pos (ndAt T y.toNat) = true) : (ovL T (d.take k)).length < (ovL T d).length := (List.getElem?_eq_some_iff.1 (ovL_at T d k h hp)).1
set_option maxRecDepth 100000 in
theorem above_any (v : Value) (x : Int) (W : World) : Calls Tryz.prog 51 #[.agg #[v], .int .i64 x] W fun e W' => e = .returned (.func (.func 91) #[] #[.pointer (some ⟨W.heap.size + 1, 0, none⟩), .pointer (some ⟨W.heap.size, 0, none⟩)]) ∧ W' = (W.alloc (.cells #[v] 44)).alloc (.cells #[.int .i64 x] 3) := by
  go_enter Tryz.func51, Tryz.ntmps51
  go_wp2_with fail
  go_ret
  exact ⟨rfl, rfl⟩
theorem bw_drewA (w : World) : Below w.heap.size w w.drew := (Below.refl _ _).drew
def KA (xb tb : Nat) (x : Int) (g o N c : Nat) (T : List Nd) (Y : World) : Prop :=
  Y.heap[xb]? = some (.cells #[.int .i64 x] 3 (0, 0)) ∧ Y.heap[tb]? = some (.cells #[.slice (some ⟨g, o, none⟩) N c] 44 (0, 0)) ∧ ∀ y, y < T.length → Y.cell? ⟨g, o + y * 4, none⟩ = some (.int .i64 (ndAt T y).pub)
theorem KA.bw {xb tb : Nat} {x : Int} {g o N c : Nat} {T : List Nd} {Y Y' : World} (h : KA xb tb x g o N c T Y) (hb : Below Y.heap.size Y Y') : KA xb tb x g o N c T Y' :=
  ⟨kept_blk h.1 hb, kept_blk h.2.1 hb, fun y hy => by have := h.2.2 y hy; rw [World.cell?_of_block (w := Y) (hb.block _ (lt_of_cell this))]; exact this⟩
def nthI (l : List Int) (i : Nat) : Int := l.getD i 0
def encA (l : List Int) (i : Nat) : Array Value := #[.int .i64 (nthI l i)]
set_option maxRecDepth 100000 in
set_option maxHeartbeats 4000000 in
theorem seqA_any {W : World} {g o c : Nat} {T : List Nd} (x : Nat) (xb tb : Nat) (ht : Trd W (.slice (some ⟨g, o, none⟩) T.length c) T) (hT : Tab W) (hm : mayB T = true) (hx : x < T.length) (hK : KA xb tb (x : Int) g o T.length c T W) :
    SeqN Tryz.prog 91 #[.pointer (some ⟨xb, 0, none⟩), .pointer (some ⟨tb, 0, none⟩)] (ov T (x : Int)).length (encA (ov T (x : Int))) (KA xb tb (x : Int) g o T.length c T) W := by
  intro l J Jx X hX hJ hN hH hY h0
  have ok := mayB_okn hm (by omega)
  obtain ⟨hd1, hd2⟩ := dir_in ok hx
  have h15 := (mayB_15 hm).1
  obtain ⟨d, hd⟩ : ∃ d, d = dir (x : Int) (nlv T : Nat) := ⟨_, rfl⟩
  have HOV : Hid (ov T (x : Int) = ovL T d) := by unfold Hid ov; rw [hd]
  have HS : Hid (∀ Y, Below X.heap.size X Y → Y.cell? ⟨xb, 0, none⟩ = some (.int .i64 (x : Int)) ∧ Y.cell? ⟨tb, 0, none⟩ = some (.slice (some ⟨g, o, none⟩) T.length c)) := fun Y hYb => by
    have q := hK.bw (bw_tr hX hYb)
    exact ⟨blk_cell q.1 rfl, blk_cell q.2.1 rfl⟩
  have KSz : Hid (∀ Y, Below X.heap.size X Y → Calls Tryz.prog 93 #[.agg #[.slice (some ⟨g, o, none⟩) T.length c]] Y fun e w' => e = .returned (.int .i64 (nlv T : Nat)) ∧ Below Y.heap.size Y w') := fun Y hYb => by
    have := size_any (ht.bw (bw_tr hX hYb)) (hT.bw (bw_tr hX hYb))
    rw [if_pos hm] at this
    exact this
  have KDr : Hid (∀ Y, Below X.heap.size X Y → Calls Tryz.prog 92 #[.int .i64 (x : Int), .int .i64 (nlv T : Nat)] Y fun e w' => ∃ v, e = .returned v ∧ Ints Y.heap.size w' v d ∧ Below Y.heap.size Y w') := fun Y hYb => by
    rw [hd]; exact direct_any (x : Int) (nlv T : Nat) Y (hT.bw (bw_tr hX hYb))
  rw [← hd] at hd1 hd2
  have HKX := hide (hK.bw hX)
  have HY := hide hY
  have HJ := hide (And.intro h0 (And.intro hJ (And.intro hN hH)))
  have HD := hide (And.intro hd1 hd2)
  rw [unhide HOV] at HY ⊢
  have S0 := unhide HS X (Below.refl _ _)
  have S1 := unhide HS X.drew (bw_drewA _)
  obtain ⟨NT, hNT⟩ : ∃ NT, NT = T.length := ⟨_, rfl⟩
  rw [← hNT] at HS S0 S1 KSz HY HKX
  obtain ⟨nl, hnl⟩ : ∃ nl, nl = nlv T := ⟨_, rfl⟩
  rw [← hnl] at KSz KDr
  have hNb : (NT : Int) ≤ 15 := by omega
  have HNT := hide hNT
  clear ht hT hm hx hK hX hJ hN hH hY h0 ok hd1 hd2 hd HOV h15 hnl hNT
  refine callsIn_of_wp Tryz.func91 rfl trivial ?_ rfl
  simp only [Tryz.ntmps91, List.size_toArray, List.length_cons, List.length_nil, Nat.reduceAdd, Nat.reduceSub, Array.replicate_succ, Array.replicate_zero, List.push_toArray, List.append_toArray, List.nil_append, List.cons_append]
  refine wpIn_wide.2 ?_
  go_wp2_with fail
  go_region_held3 (fun w' : World => w'.cell? ⟨xb, 0, none⟩ = some (.int .i64 (x : Int)) ∧ w'.cell? ⟨tb, 0, none⟩ = some (.slice (some ⟨g, o, none⟩) NT c)) (first | with_reducible exact S0 | with_reducible exact S1 | with_reducible exact S2 | with_reducible exact S3 | go_keep) (first
    | (go_at_call 92; refine (unhide KDr _ b2).mono ?_; rintro e_ z2 ⟨dv, rfl, hdv, b3⟩; have b4 := bw_tr b2 b3; have S3 := unhide HS _ b4; obtain ⟨da, dc, hde⟩ := own_slice hdv; subst hde)
    | (go_at_call 93; refine (unhide KSz _ (bw_drewA X)).mono ?_; rintro e_ z1 ⟨rfl, b1⟩; have b2 := bw_tr (bw_drewA X) b1; have S2 := unhide HS _ b2)
    | fail)
  all_goals
    have hJ1 := (unhide HJ).2.2.1 0 _ d z1 z2 ((unhide HJ).2.1 0 _ _ X z1 (unhide HJ).1 b2) b3 hdv
    have HI : Hid (J 0 (.slice da d.length dc) d z2 ∧ KA xb tb (x : Int) g o NT c T z2) := ⟨hJ1, (unhide HKX).bw b4⟩
    obtain ⟨M, hM⟩ : ∃ M, M = d.length := ⟨_, rfl⟩
    rw [← hM] at HI ⊢
    have hMb : (M : Int) ≤ 3 := by have := (unhide HD).2; omega
    have HM := hide hM
    clear hJ1 b1 b2 b3 b4 hdv S0 S1 S2 S3 HKX KSz KDr HS hM
    go_wp2_with fail
    refine (wpIn_wide (n := 1)).1 ?_
    gi_loopw [11] (fun kv wr => ∃ k : Nat, k ≤ M ∧ kv = .int .i64 (k : Int) ∧ Hid (J (ovL T (d.take k)).length (.slice da M dc) d wr ∧ KA xb tb (x : Int) g o NT c T wr)) (fun kv _ => (M - intOf kv).toNat)
    case atStart => exact ⟨0, by omega, rfl, by simpa [ovL] using HI⟩
    case round =>
      clear HI
      obtain ⟨k, hk, rfl, HR⟩ := hrel
      by_cases hlt : k < M
      · obtain ⟨y0, hy0⟩ : ∃ y, d[k]? = some y := ⟨_, List.getElem?_eq_getElem (by have := unhide HM; omega)⟩
        obtain ⟨y, rfl, hyl⟩ := (unhide HD).1 y0 (List.mem_of_getElem? hy0)
        have hrow := (unhide HJ).2.2.2 _ _ _ _ (unhide HR).1
        obtain ⟨dg, cp, hde, -⟩ := own_open hrow (by have := unhide HM; omega)
        simp only [Value.slice.injEq] at hde
        obtain ⟨rfl, -, -⟩ := hde
        have cd : wr.cell? ⟨dg, k, none⟩ = some (.int .i64 (y : Int)) := own_cell hrow (g := dg) rfl (j := k) (u := I64 (y : Int)) (by simp [hy0])
        have ct := blk_cell (i := 0) (unhide HR).2.2.1 rfl
        have cy := (unhide HR).2.2.2 y hyl
        have q1 : (k : Int) < (M : Int) := by omega
        have q2 : (y : Int) < (NT : Int) := by have := unhide HNT; omega
        have hsn := ovL_snoc T d k hy0
        rw [Int.toNat_natCast] at hsn
        by_cases hp : Go.Proofs.YtpcpcgagiapinaaGreatDoor.pos (ndAt T y) = true
        · have hi := ovL_lt T d k hy0 (by rw [Int.toNat_natCast]; exact hp)
          have hat := ovL_at T d k hy0 (by rw [Int.toNat_natCast]; exact hp)
          rw [if_pos hp] at hsn
          have hsl : (ovL T (d.take (k + 1))).length = (ovL T (d.take k)).length + 1 := by rw [hsn]; simp
          obtain ⟨fn, tmps, assign, body, hy, hR⟩ := unhide HY (ovL T (d.take k)).length _ _ wr hi (unhide HR).1 (unhide HR).2
          rw [encA, nthI, getD_of hat] at hy
          have hpn : (ndAt T y).pub ≠ 0 := by unfold Go.Proofs.YtpcpcgagiapinaaGreatDoor.pos at hp; simpa using hp
          obtain ⟨P, hP⟩ : ∃ P, P = (ndAt T y).pub := ⟨_, rfl⟩
          rw [← hP] at cy hpn
          have z1 : (P == 0) = false := by simpa using hpn
          have z2 : decide (P = 0) = false := by simpa using hpn
          have z3 : (P != 0) = true := by simpa using hpn
          obtain ⟨j, hj⟩ : ∃ j, j = (ovL T (d.take k)).length := ⟨_, rfl⟩
          rw [← hj] at hR hi hsl
          have HI := hide (And.intro hi (And.intro hsl hlt))
          clear HR hrow hsn hat hi hsl hlt hk hp hj hpn hP hy0 hyl
          gi_wp2
          refine hR.mono ?_
          rintro e W3 (⟨rfl, hJ3, hk3⟩ | ⟨rfl, hJx3⟩)
          · have HR3 : Hid (J (ovL T (d.take (k + 1))).length (.slice (some ⟨dg, 0, none⟩) M dc) d W3 ∧ KA xb tb (x : Int) g o NT c T W3) := by
              rw [(unhide HI).2.1]; exact ⟨hJ3, hk3⟩
            clear hJ3 hk3 hR hy cd ct cy
            gi_wp2
            go_roundw
            case rel => exact ⟨k + 1, by have := (unhide HI).2.2; omega, by go_num, HR3⟩
            case measure => have := (unhide HI).2.2; simp only [intOf]; omega
          · have HJ3 : Hid (Jx j W3) := hJx3
            clear hJx3 hR hy cd ct cy
            gi_wp2
            refine bodyPost_ret (results_none rfl _ _ _) rfl ?_
            exact ⟨⟨_, rfl⟩, Or.inr ⟨j, (unhide HI).1, unhide HJ3⟩⟩
        · rw [if_neg hp, List.append_nil] at hsn
          have hpn : (ndAt T y).pub = 0 := by unfold Go.Proofs.YtpcpcgagiapinaaGreatDoor.pos at hp; simpa using hp
          rw [hpn] at cy
          have HR3 : Hid (J (ovL T (d.take (k + 1))).length (.slice (some ⟨dg, 0, none⟩) M dc) d wr ∧ KA xb tb (x : Int) g o NT c T wr) := by
            rw [hsn]; exact unhide HR
          have HI := hide hlt
          clear HR hrow hsn hlt hk hp hpn hy0 hyl
          gi_wp2
          refine ⟨fun f hf => (by cases hf), ?_⟩
          gi_wp2
          go_roundw
          case rel => exact ⟨k + 1, by have := unhide HI; omega, by go_num, HR3⟩
          case measure => have := unhide HI; simp only [intOf]; omega
      · obtain rfl : k = M := by omega
        have HJ3 : Hid (∃ qv ql, J (ovL T d).length qv ql wr) := ⟨_, _, by have := (unhide HR).1; rwa [unhide HM, List.take_length] at this⟩
        clear HR hlt hk
        gi_wp2
        go_end0
        exact ⟨⟨_, rfl⟩, Or.inl (unhide HJ3)⟩
end Go.Proofs.YtpcpcgagiapinaaGreatDoor.Tn.Pa
