/- A law for a range over a function of one's own: its body may change whatever lies ahead of the loop and make new maps; it keeps the loop's own two blocks. -/
import Derived.Test.YtfnpeiikjiffeaaGreatBaC
import Derived.RangeFuncNested
import Derived.RangeFuncBound
import Derived.RangeFuncCalls
import Derived.RangeFuncLeaves
import Derived.OwnWalkIn
import Derived.TacticsInMore
import Derived.LoopNIn
import Derived.LoopIn
namespace Go.Proofs.YtfnpeiikjiffeaaGreat
open Go.RowKit

/-- The blocks that a range over a function lays for itself. -/
def isLp : Obj → Bool
  | .loop _ => true
  | .deferred _ => true
  | _ => false
/-- An iterator that hands on enc 0, enc 1, .. N in all; what it reads is K0; it makes nothing but new blocks. -/
def SeqN (P : Program) (gf : Nat) (lb : Array Value) (N : Nat) (enc : Nat → Array Value) (K0 : World → Prop) (W : World) : Prop :=
  ∀ (l : Nat) (J Jx : Nat → World → Prop) (X : World), Below W.heap.size W X → (∀ i A B, J i A → Below A.heap.size A B → J i B) →
    (∀ i W1, i < N → J i W1 → K0 W1 → YieldAt Fence.wide 0 P l (enc i) W1 fun e W' => (e = .returned (.bool true) ∧ J (i + 1) W' ∧ K0 W') ∨ (e = .returned (.bool false) ∧ Jx i W')) →
    J 0 X → CallsIn Fence.wide 1 P gf (#[.func (.yield l) #[] #[]] ++ lb) X fun e W' => (∃ v, e = .returned v) ∧ (J N W' ∨ ∃ i, i < N ∧ Jx i W')
/-- How a round may be left: on, or by a return. -/
def postN (I Ix : Nat → World → Prop) (K0 : World → Prop) (D l i : Nat) (W : World) : Exit → Act → World → Prop
  | .normal, _, W' => W'.heap[l]? = W.heap[l]? ∧ W'.heap[D]? = W.heap[D]? ∧ K0 W' ∧ I (i + 1) W'
  | .ret, _, W' => W'.heap[l]? = W.heap[l]? ∧ W'.heap[D]? = W.heap[D]? ∧ Ix i W'
  | _, _, _ => False
theorem range_own {P : Program} {gf : Nat} {lb : Array Value} {N : Nat} {enc : Nat → Array Value} {K0 : World → Prop} {g : Operand} {ps : Array Tmp} {assign body : Code} {Q : Exit → Act → World → Prop} {a : Act} {w : World} (hseq : SeqN P gf lb N enc K0 w)
    (hg : a.eval g = .func (.func gf) #[] lb) (eg : ∀ args w, (callFunc gf args).run P w = .ok (.enter gf args) w) (hps : ∀ i, (enc i).size = ps.size)
    (I Ix : Nat → World → Prop) (hIa : ∀ i A B, I i A → Below A.heap.size A B → I i B) (hIl : ∀ i A b o o', w.heap.size ≤ b → I i A → A.heap[b]? = some o → isLp o = true → I i (A.putObj b o')) (hXl : ∀ i A b o o', w.heap.size ≤ b → Ix i A → A.heap[b]? = some o → isLp o = true → Ix i (A.putObj b o'))
    (hKl : ∀ A b o o', w.heap.size ≤ b → K0 A → A.heap[b]? = some o → isLp o = true → K0 (A.putObj b o')) (h0 : I 0 w) (a₁ : Nat → Act)
    (hassign : ∀ (l i : Nat) (W : World) (K : Act → World → Prop), K (a₁ i) W → assign.wpIn (Fence.wide.inRound l) 0 P (Exit.then K (fun _ _ _ => False)) { tmps := (ps.zip (enc i)).foldl (fun t (p, v) => t.setIfInBounds p v) a.tmps, defers := [] } W)
    (hbody : ∀ (D l i : Nat) (W : World) (r : Loop), w.heap.size ≤ D → l = D + 1 → i < N → I i W → K0 W → W.heap[l]? = some (.loop r) → W.heap[D]? = some (.deferred (some [])) → body.wpIn (Fence.wide.inRound l) 0 P (postN I Ix K0 D l i W) (a₁ i) W)
    (hdone : ∀ (D : Nat) (W : World), w.heap.size ≤ D → I N W → W.heap[D]? = some (.deferred (some [])) → Q .normal { a with defers := { target := .collected D, args := #[] } :: a.defers } W)
    (hstop : ∀ (D i : Nat) (W : World), w.heap.size ≤ D → i < N → Ix i W → W.heap[D]? = some (.deferred (some [])) → Code.ret.wpIn Fence.wide 2 P Q { a with defers := { target := .collected D, args := #[] } :: a.defers } W) :
    (Code.rangeFunc g ps assign body).wp P Q a w := by
  refine (wpIn_wide (n := 2)).1 (wpIn_rangeFunc ?_)
  intro fn hfn
  obtain ⟨rec, hrec⟩ : ∃ rec : LoopState → Option Code → Loop, rec = fun st pe => { state := st, pending := pe, fn, tmps := a.tmps, params := ps, assign, body, defers := w.heap.size } := ⟨_, rfl⟩
  obtain ⟨W1, hW1⟩ : ∃ W1, W1 = (w.alloc (.deferred (some []))).alloc (.loop (rec .ready none)) := ⟨_, rfl⟩
  have hl1 : W1.heap[w.heap.size + 1]? = some (.loop (rec .ready none)) := by
    have := heap_alloc_new (w.alloc (.deferred (some []))) (.loop (rec .ready none))
    rw [World.size_alloc] at this
    rw [hW1]; exact this
  have hD1 : W1.heap[w.heap.size]? = some (.deferred (some [])) := by
    rw [hW1, Below.heap_alloc _ _ _ (by simp)]; exact heap_alloc_new _ _
  have hb1 : Below w.heap.size w W1 := by rw [hW1]; exact ((Below.refl _ _).alloc (Nat.le_refl _) _).alloc (by simp) _
  refine ⟨w.heap.size + 1, [{ target := .collected w.heap.size, args := #[] }], W1, { target := .fn (.func gf) lb, args := #[.func (.yield (w.heap.size + 1)) #[] #[]] }, W1, gf, #[.func (.yield (w.heap.size + 1)) #[] #[]] ++ lb, W1, ?_, ?_, fun _ _ => trivial, ?_, (fun h => by cases h), ?_⟩
  · rw [hW1, hrec]; exact run_enterLoop_outer _ _ _ _ _
  · simp only [resolve, hg]
    simp [go_sem]
  · simp [invoke, go_sem, eg]
  · refine (hseq (w.heap.size + 1) (fun i W => I i W ∧ W.heap[w.heap.size + 1]? = some (.loop (rec .ready none)) ∧ W.heap[w.heap.size]? = some (.deferred (some []))) (fun i W => Ix i W ∧ W.heap[w.heap.size + 1]? = some (.loop (rec .done (some .ret))) ∧ W.heap[w.heap.size]? = some (.deferred (some []))) W1 hb1 ?_ ?_ ⟨hIa 0 w W1 h0 hb1, hl1, hD1⟩).mono ?_
    · rintro i A B ⟨q1, q2, q3⟩ hb
      exact ⟨hIa i A B q1 hb, (hb.block _ (lt_of_blk q2)).trans q2, (hb.block _ (lt_of_blk q3)).trans q3⟩
    · rintro i W hiN ⟨hi, hl, hD⟩ hK
      have hlt := lt_of_blk hl
      have hy := run_yield (P := P) (args := enc i) hl (by rw [hrec]; exact hps i)
      rw [hrec] at hy
      refine ⟨fn, _, assign, body, hy, roundIn_of_wpIn hfn (hassign _ i W _ ⟨_, run_beginRound hl (by rw [hrec]), ?_⟩)⟩
      obtain ⟨X, hX⟩ : ∃ X, X = W.putObj (w.heap.size + 1) (.loop { rec .ready none with state := .busy }) := ⟨_, rfl⟩
      have hlX : X.heap[w.heap.size + 1]? = some (.loop { rec .ready none with state := .busy }) := by rw [hX]; exact World.putObj_heap_same hlt
      have hDX : X.heap[w.heap.size]? = some (.deferred (some [])) := by rw [hX, World.putObj_heap_other (by omega)]; exact hD
      rw [← hX]
      refine wpIn_mono (hbody w.heap.size _ i X _ (Nat.le_refl _) rfl hiN (by rw [hX]; exact hIl i W _ _ _ (by omega) hi hl rfl) (by rw [hX]; exact hKl W _ _ _ (by omega) hK hl rfl) hlX hDX) ?_
      rintro e a3 W3 hp
      cases e with
      | normal =>
        obtain ⟨k1, k2, k3, k4⟩ := hp
        have hl3 : W3.heap[w.heap.size + 1]? = _ := k1.trans hlX
        have hr := run_endRound (P := P) none hl3
        refine ⟨_, _, hr, Or.inl ⟨rfl, ⟨hIl _ _ _ _ _ (by omega) k4 hl3 rfl, ?_, ?_⟩, hKl _ _ _ _ (by omega) k3 hl3 rfl⟩⟩
        · rw [World.putObj_heap_same (lt_of_blk hl3), hrec]; rfl
        · rw [World.putObj_heap_other (by omega)]; exact k2.trans hDX
      | ret =>
        obtain ⟨k1, k2, k4⟩ := hp
        have hl3 : W3.heap[w.heap.size + 1]? = _ := k1.trans hlX
        have hr := run_endRound (P := P) (some .ret) hl3
        refine ⟨_, _, hr, Or.inr ⟨rfl, hXl _ _ _ _ _ (by omega) k4 hl3 rfl, ?_, ?_⟩⟩
        · rw [World.putObj_heap_same (lt_of_blk hl3), hrec]; rfl
        · rw [World.putObj_heap_other (by omega)]; exact k2.trans hDX
      | exit id => exact hp.elim
      | goto t => exact hp.elim
      | panic ch => exact hp.elim
      | outgrown => exact hp.elim
    · rintro e W2 ⟨⟨v, rfl⟩, ⟨hi, hl, hD⟩ | ⟨i, hiN, hi, hl, hD⟩⟩
      · have he := run_endLoop (P := P) hl (by rw [hrec]; simp)
        refine ⟨none, _, by rw [hrec] at he; exact he, hdone w.heap.size _ (Nat.le_refl _) (hIl _ _ _ _ _ (by omega) hi hl rfl) ?_⟩
        rw [World.putObj_heap_other (by omega)]; exact hD
      · have he := run_endLoop (P := P) hl (by rw [hrec]; simp)
        refine ⟨some .ret, _, by rw [hrec] at he; exact he, hstop w.heap.size i _ (Nat.le_refl _) hiN (hXl _ _ _ _ _ (by omega) hi hl rfl) ?_⟩
        rw [World.putObj_heap_other (by omega)]; exact hD

end Go.Proofs.YtfnpeiikjiffeaaGreat
