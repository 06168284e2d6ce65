/- Texts joined: NDdD NDdE NDdF NDdPureB. -/
import Derived.Test.YtkaioidneknmjaaGreatDoorZ09
import Derived.Test.YtkaioidneknmjaaGreatDoorZ03
/- The contract of lookAt of package deduce. -/
namespace Go.Proofs.YtkaioidneknmjaaGreatDoor.Tn
open Go.RowKit Go.Maps

/-- A row of numbers that has grown. -/
structure Nw (W W' : World) (v v' : Value) (l : List Nat) : Prop where
  row : NRow 0 W' v' l
  fr : Fr v.ownBlock.toList W W'
  pl : ∀ k, v'.ownBlock = some k → v.ownBlock = some k ∨ W.heap.size ≤ k
theorem Nw.same {W W' : World} {v : Value} {l : List Nat} (h : NRow 0 W v l) (hb : Below W.heap.size W W') : Nw W W' v v l :=
  ⟨h.keep (fun k hk => hb.block k (h.lt k hk).2), (Fr.ofBelow hb).mono (fun _ _ c => by cases c), fun _ hk => Or.inl hk⟩
theorem Nw.grown {W W1 W2 : World} {v v' : Value} {l : List Nat} {x : List Nat} {ob : Obj} (_h : NRow 0 W v l) (hb : Below W.heap.size W W1) (hown : W2.ownsRow 0 3 1 v' (l.length + x.length) (l.map (fun m => .int .i64 ((m : Nat) : Int)) ++ x.map (fun m => .int .i64 ((m : Nat) : Int)))) (hg : (W1.alloc ob).grownBy W2 v.ownBlock) (hat : v'.ownBlock = v.ownBlock ∨ v'.ownBlock = some (W1.heap.size + 1)) : Nw W W2 v v' (l ++ x) := by
  refine ⟨by unfold NRow; rw [List.length_append, List.map_append]; exact hown, ?_, fun k hk => ?_⟩
  · exact ((Fr.ofBelow hb).alloc ob).trans (Fr.ofGrown hg) (fun _ _ c => by cases c) (fun _ _ c => c)
  · rcases hat with c | c
    · left; rw [← c]; exact hk
    · right; rw [c] at hk; simp at hk; have := hb.size; omega
theorem one_two (x y : Int) : ∀ u ∈ [Value.int .i64 x, .int .i64 y], u.oneCell' = true := by
  intro u hu; simp at hu; rcases hu with rfl | rfl <;> rfl
theorem cells_new2b (w : World) (n : Nat) (hn : n = w.heap.size) (x0 x1 : Value) (t : TypeId) : ∀ j u, [x0, x1][j]? = some u → (w.alloc (.cells #[x0, x1] t)).cell? ((⟨n, 0, none⟩ : Addr).add j) = some u := by
  subst hn; exact cells_new2 w x0 x1 t
theorem ret_v {a b : Value} (h : a = b) : Ending.returned a = .returned b := by rw [h]

end Go.Proofs.YtkaioidneknmjaaGreatDoor.Tn

/- The contract of learn of package deduce. -/
namespace Go.Proofs.YtkaioidneknmjaaGreatDoor.Tn
open Go.RowKit Go.Maps

/-- How many are not marked, as memory has it. -/
def nfW (w : World) (kb : Nat) : Nat :=
  match w.cell? ⟨kb, 1, none⟩ with
  | some (.slice (some a) n _) => (List.range n).countP (fun i => match w.cell? ⟨a.block, i, none⟩ with | some (.bool x) => !x | _ => false)
  | _ => 0
theorem nf_range (F : List Bool) : nf F = (List.range F.length).countP (fun i => !onB F i) := by
  have e : F = (List.range F.length).map (onB F) := by
    apply List.ext_getElem
    · simp
    · intro i h1 h2; simp [onB, List.getD, List.getElem?_eq_getElem h1]
  unfold nf
  conv => lhs; rw [e]
  rw [List.countP_map]
  rfl
theorem Sm.weakT {L : List Tm} {K : Nat → Prop} {F : List Bool} {l : List Nat} {T T' : Nat → Prop} (h : Sm L K F l T) (hT : ∀ x, T x → T' x) : Sm L K F l T' :=
  ⟨h.sound, h.psound, h.krng, h.known, fun m a b c d => h.make m a b (fun q => c (hT m q)) d, fun m a b c d => h.pair m a b (fun q => c (hT m q)) d, fun m a b c d e => h.opens m a b (fun q => c (hT m q)) d e⟩

theorem meas_mark {M q x a b : Nat} (h : b = a + 1) (hx : x ≤ q + 2 + 2 * M) : x + (2 * M + 3) * a < q + 1 + (2 * M + 3) * b := by
  subst h
  rw [Nat.mul_succ]
  generalize (2 * M + 3) * a = Z
  omega

end Go.Proofs.YtkaioidneknmjaaGreatDoor.Tn

/- Contracts of Has, Learn and Clone of package deduce. -/
namespace Go.Proofs.YtkaioidneknmjaaGreatDoor.Tn
open Go.RowKit Go.Maps

/-- Does a term follow? -/
noncomputable def hasB (L : List Tm) (K : Nat → Prop) (x : Int) : Bool := @decide (1 ≤ x ∧ Fol L K x.toNat) (Classical.propDecidable _)
theorem hasB_iff {L : List Tm} {K : Nat → Prop} {x : Int} : hasB L K x = true ↔ 1 ≤ x ∧ Fol L K x.toNat := by
  unfold hasB; exact @decide_eq_true_iff _ (Classical.propDecidable _)
theorem hasB_nat {L : List Tm} {K : Nat → Prop} (hG : Good L) {m : Nat} : hasB L K (m : Int) = true ↔ Fol L K m := by
  rw [hasB_iff, Int.toNat_natCast]
  exact ⟨fun h => h.2, fun h => ⟨by have := h.rng hG; omega, h⟩⟩
theorem hasB_out {L : List Tm} {K : Nat → Prop} (hG : Good L) {x : Int} (h : thr L.length x = false) : hasB L K x = false := by
  cases e : hasB L K x
  · rfl
  · obtain ⟨h1, h2⟩ := hasB_iff.1 e
    have := h2.rng hG
    exact absurd (by omega : 1 ≤ x ∧ x ≤ (L.length : Int)) (thr_false.1 h)

theorem mul_bound {M n : Nat} (hM : M ≤ 3145731) (hn : n ≤ 1048577) : (2 * M + 3) * n ≤ 7000000000000 :=
  Nat.le_trans (Nat.mul_le_mul (show 2 * M + 3 ≤ 6291465 by omega) hn) (by decide)
theorem Lk.cap {L : List Tm} {F : List Bool} {fs : List Nat} {ls : List (Nat × Nat)} (h : Lk L F fs ls none2 0) (hL : L.length ≤ 1048576) : (2 * ls.length + 3) * nf F ≤ 7000000000000 := by
  have h1 := h.lenF
  have h2 := h.lenl
  have h3 := nf_le F
  exact mul_bound (by omega) (by omega)
end Go.Proofs.YtkaioidneknmjaaGreatDoor.Tn

/- What follows, of pairs and lists; of what is known already; of what is sealed with a key that is new. Nothing here speaks of the program. -/
namespace Go.Proofs.YtkaioidneknmjaaGreatDoor.Tn

theorem pair_fol {L : List Tm} {K : Nat → Prop} {m : Nat} (h1 : 1 ≤ m) (h2 : m ≤ L.length) (hk : kdOf L m = 3) : Fol L K m ↔ Fol L K (pA L m) ∧ Fol L K (pB L m) := by
  constructor
  · exact fun h => ⟨.pairA h hk, .pairB h hk⟩
  · rintro ⟨a, b⟩
    exact .make h1 h2 (by rw [hk]; decide) (fun _ => a) (fun _ => b)
theorem mkL_ext (L : List Tm) (t : Tm) : ∃ q, mkL L t = L ++ q := mkL_prefix L t
theorem getT_at {L : List Tm} {x : Int} {t : Tm} (h : thr L.length x = true) (e : getT L x = t) : tmAt L x.toNat = t := by
  unfold getT at e; rw [if_pos h] at e; exact e
theorem lsF_fol : ∀ (r : List Int) (L : List Tm) (n : Int), Good L → L.length + r.length ≤ 10000 → (∀ a ∈ r, thr L.length a = true) → thr L.length n = true → ∀ L' m, lsF L r n = (L', m, 0) →
    (∃ q, L' = L ++ q) ∧ Good L' ∧ thr L'.length m = true ∧ ∀ K, (Fol L' K m.toNat ↔ Fol L' K n.toNat ∧ ∀ a ∈ r, Fol L' K a.toNat) := by
  intro r
  induction r with
  | nil =>
    intro L n hG _ _ hn L' m e
    simp only [lsF, Prod.mk.injEq] at e
    obtain ⟨rfl, rfl, _⟩ := e
    exact ⟨⟨[], by simp⟩, hG, hn, fun K => by simp⟩
  | cons a r ih =>
    intro L n hG hl hr hn L' m e
    have ha := hr a (by simp)
    have hm : may L.length ⟨3, 0, a, n⟩ = true := by simp [may, ha, hn]
    obtain ⟨_, _, _, q⟩ := mk_again hG ⟨3, 0, a, n⟩ (by simp at hl; omega)
    rcases q with ⟨_, e0, t1, t2, _, _⟩ | ⟨e0, _⟩
    · simp only [lsF, e0, if_true] at e
      have hle := mkL_le L ⟨3, 0, a, n⟩
      have hle2 := mkL_len L ⟨3, 0, a, n⟩
      obtain ⟨⟨q1, i1⟩, i2, i3, i4⟩ := ih (mkL L ⟨3, 0, a, n⟩) _ (hG.made _) (by simp at hl; omega) (fun x hx => thr_mono (hr x (List.mem_cons_of_mem _ hx)) hle) t1 L' m e
      obtain ⟨q0, e1⟩ := mkL_ext L ⟨3, 0, a, n⟩
      refine ⟨⟨q0 ++ q1, by rw [i1, e1, List.append_assoc]⟩, i2, i3, fun K => ?_⟩
      have hat : tmAt (mkL L ⟨3, 0, a, n⟩) (mkN L ⟨3, 0, a, n⟩) = ⟨3, 0, a, n⟩ := by have := getT_at t1 t2; simpa using this
      have hrg := thr_iff.1 t1
      have hat' : tmAt L' (mkN L ⟨3, 0, a, n⟩) = ⟨3, 0, a, n⟩ := by rw [i1, tmAt_ext q1 (by omega) (by omega)]; exact hat
      have hlen' : (mkL L ⟨3, 0, a, n⟩).length ≤ L'.length := by rw [i1]; simp
      have hp := pair_fol (L := L') (K := K) (m := mkN L ⟨3, 0, a, n⟩) (by omega) (by omega) (by unfold kdOf; rw [hat'])
      have ea : pA L' (mkN L ⟨3, 0, a, n⟩) = a.toNat := by unfold pA; rw [hat']
      have eb : pB L' (mkN L ⟨3, 0, a, n⟩) = n.toNat := by unfold pB; rw [hat']
      rw [ea, eb] at hp
      rw [i4 K, Int.toNat_natCast, hp]
      constructor
      · rintro ⟨⟨x, y⟩, z⟩
        refine ⟨y, fun c hc => ?_⟩
        rcases List.mem_cons.1 hc with rfl | hc
        · exact x
        · exact z c hc
      · rintro ⟨y, z⟩
        exact ⟨⟨z a (by simp), y⟩, fun c hc => z c (List.mem_cons_of_mem _ hc)⟩
    · simp only [lsF, e0] at e
      simp at e
theorem ls_fol {L : List Tm} {l : List Int} (hG : Good L) (hl : L.length + l.length ≤ 10000) {L' : List Tm} {n : Int} (e : ls L l = (L', n, 0)) (hn : n ≠ 0) :
    (∃ q, L' = L ++ q) ∧ Good L' ∧ (∀ x ∈ l, thr L'.length x = true) ∧ ∀ K, (hasB L' K n = l.all (hasB L' K)) := by
  unfold ls at e
  by_cases c : l.all (thr L.length) = true
  · rw [if_pos c] at e
    have hall := List.all_eq_true.1 c
    cases hrv : l.reverse with
    | nil => rw [hrv] at e; simp only [Prod.mk.injEq] at e; exact absurd e.2.1.symm hn
    | cons x r =>
      rw [hrv] at e
      simp only at e
      have hmem : ∀ y, y ∈ l ↔ y = x ∨ y ∈ r := fun y => by rw [← List.mem_reverse, hrv, List.mem_cons]
      have hlen : l.length = r.length + 1 := by rw [← List.length_reverse, hrv]; simp
      obtain ⟨i1, i2, i3, i4⟩ := lsF_fol r L x hG (by omega) (fun a ha => hall a ((hmem a).2 (Or.inr ha))) (hall x ((hmem x).2 (Or.inl rfl))) L' n e
      obtain ⟨q, hq⟩ := i1
      have hin : ∀ y ∈ l, thr L'.length y = true := fun y hy => thr_mono (hall y hy) (by rw [hq]; simp)
      refine ⟨⟨q, hq⟩, i2, hin, fun K => ?_⟩
      rw [Bool.eq_iff_iff, hasB_iff, List.all_eq_true, i4 K]
      have := thr_iff.1 i3
      constructor
      · rintro ⟨_, h2, h3⟩ y hy
        have := thr_iff.1 (hin y hy)
        refine hasB_iff.2 ⟨by omega, ?_⟩
        rcases (hmem y).1 hy with rfl | hy
        · exact h2
        · exact h3 y hy
      · intro h
        exact ⟨by omega, (hasB_iff.1 (h x ((hmem x).2 (Or.inl rfl)))).2, fun a ha => (hasB_iff.1 (h a ((hmem a).2 (Or.inr ha)))).2⟩
  · rw [if_neg c] at e
    simp at e

theorem hasB_sub {L : List Tm} {K K' : Nat → Prop} (hG : Good L) (h : ∀ m, 1 ≤ m → m ≤ L.length → K m → Fol L K' m) {x : Int} (hx : hasB L K x = true) : hasB L K' x = true := by
  obtain ⟨a, b⟩ := hasB_iff.1 hx
  exact hasB_iff.2 ⟨a, b.mono hG h⟩
theorem hasB_eq {L : List Tm} {K K' : Nat → Prop} (hG : Good L) (h : ∀ m, 1 ≤ m → m ≤ L.length → K m → Fol L K' m) (h' : ∀ m, 1 ≤ m → m ≤ L.length → K' m → Fol L K m) (x : Int) : hasB L K x = hasB L K' x := by
  rw [Bool.eq_iff_iff]; exact ⟨hasB_sub hG h, hasB_sub hG h'⟩

end Go.Proofs.YtkaioidneknmjaaGreatDoor.Tn
