/- Texts joined: TrG0 TrG1 TrG. -/
import Derived.Test.YtcbafeneaoaglaaGreatDoorBaX
/- Plain facts of resolutions; the append of a row that reads as numbers, as a step of a region that draws. -/
namespace Go.Proofs.YtcbafeneaoaglaaGreatDoor
open Go.RowKit Go.Maps

/-- Unmerged leaves are few, and small numbers. -/
def Sm (T : List Nd) : Prop := ∀ y, y < T.length → (ndAt T y).un.length ≤ 8 ∧ ∀ u ∈ (ndAt T y).un, 0 ≤ u ∧ u ≤ 7
theorem unM_bounds {T : List Nd} {L : Int} : ∀ {l : List Int} {f : Int}, unM T f L l = true → l.length ≤ (L + 1 - f).toNat ∧ ∀ u ∈ l, f ≤ u ∧ u ≤ L ∧ pos (ndAt T (2 * u.toNat)) = true
  | [], _, _ => ⟨by simp, by simp⟩
  | u :: us, f, h => by
    simp only [unM, Bool.and_eq_true, decide_eq_true_eq] at h
    obtain ⟨⟨⟨h1, h2⟩, h3⟩, h4⟩ := h
    obtain ⟨i1, i2⟩ := unM_bounds h4
    refine ⟨by simp only [List.length_cons]; omega, fun z hz => ?_⟩
    rcases List.mem_cons.1 hz with rfl | hz
    · exact ⟨h1, h2, h3⟩
    · have := i2 z hz; exact ⟨by omega, this.2.1, this.2.2⟩
theorem ndM_un {T : List Nd} {x : Nat} (h : ndM T x = true) : (ndAt T x).un = [] ∨ (x % 2 = 1 ∧ 0 < (ndAt T x).pub ∧ unM T (spF (x : Nat)) (spT (x : Nat)) (ndAt T x).un = true) := by
  unfold ndM at h
  split at h
  · simp only [Bool.and_eq_true] at h; exact Or.inl (List.isEmpty_iff.1 h.2)
  · split at h
    · cases h
    · split at h
      · simp only [Bool.and_eq_true] at h; exact Or.inl (List.isEmpty_iff.1 h.2)
      · simp only [Bool.and_eq_true] at h; exact Or.inr ⟨by omega, by omega, h.2⟩
/-- A tree that may be, and has nodes. -/
structure Ok (T : List Nd) : Prop where
  wd : Wd T
  nd : ∀ x, x < T.length → ndM T x = true
  nodup : (mems T).Nodup
  right : anyM T (nlv T / 2) (nlv T) = true
theorem mayB_ok {T : List Nd} (h : mayB T = true) : T = [] ∨ Ok T := by
  rcases mayB_wd h with c | c
  · exact Or.inl c
  · unfold mayB at h
    simp only [Bool.or_eq_true, Bool.and_eq_true, decide_eq_true_eq] at h
    rcases h with h | h
    · exact Or.inl (List.isEmpty_iff.1 h)
    · exact Or.inr ⟨c, fun x hx => List.all_eq_true.1 h.1.1.2 x (List.mem_range.2 hx), h.1.2, h.2⟩
theorem Ok.mayB {T : List Nd} (h : Ok T) : mayB T = true := by
  obtain ⟨g1, g2, g3, g4, g5⟩ := h.wd.facts
  unfold Go.Proofs.YtcbafeneaoaglaaGreatDoor.mayB
  have hw : wid (nlv T : Nat) = (T.length : Nat) := by
    have hh : ∀ n ∈ sizes, wid (n : Nat) = ((2 * n - 1 : Nat) : Int) := by decide +kernel
    rw [hh _ g1, g2]
  rw [decide_eq_true g4, decide_eq_true hw, decide_eq_true h.nodup, h.right, (List.all_eq_true.2 fun x hx => h.nd x (List.mem_range.1 hx))]
  simp
theorem Ok.sm {T : List Nd} (h : Ok T) : Sm T := by
  intro y hy
  obtain ⟨g1, g2, g3, g4, g5⟩ := h.wd.facts
  rcases ndM_un (h.nd y hy) with e | ⟨_, _, e⟩
  · rw [e]; simp
  · obtain ⟨⟨s1, s2, s3, _⟩, _⟩ := span_of g1 (show y < 2 * nlv T - 1 by omega)
    obtain ⟨i1, i2⟩ := unM_bounds e
    exact ⟨by omega, fun u hu => by have := i2 u hu; omega⟩

theorem rsF_fuel {T : List Nd} {n : Nat} (hn : n ∈ sizes) : ∀ (f g x : Nat), x < 2 * n - 1 → lvl (x : Nat) < f → lvl (x : Nat) < g → rsF f T x = rsF g T x := by
  intro f
  induction f with
  | zero => intro g x hx h1 h2; have := (span_of hn hx).2.2.1; omega
  | succ f ih =>
    intro g x hx h1 h2
    cases g with
    | zero => have := (span_of hn hx).2.2.1; omega
    | succ g =>
      unfold rsF
      by_cases hp : pos (ndAt T x) = true
      · rw [if_pos hp, if_pos hp]
      · rw [if_neg hp, if_neg hp]
        by_cases ho : x % 2 = 0
        · rw [if_pos ho, if_pos ho]
        · rw [if_neg ho, if_neg ho]
          obtain ⟨a1, a2, a3, a4, a5, a6, a7, a8, _⟩ := (span_of hn hx).2.1 (by omega)
          rw [ih g (lN x) a5 (by omega) (by omega), ih g (rN x) a6 (by omega) (by omega)]
theorem rsl_pos {T : List Nd} {x : Nat} (hp : pos (ndAt T x) = true) : rsl T x = (x : Int) :: (ndAt T x).un.map (2 * ·) := by
  unfold rsl rsF; rw [if_pos hp]
theorem rsl_leaf {T : List Nd} {x : Nat} (hp : pos (ndAt T x) = false) (ho : x % 2 = 0) : rsl T x = [] := by
  unfold rsl rsF; rw [if_neg (by simp [hp]), if_pos ho]
theorem rsl_par {T : List Nd} {n x : Nat} (hn : n ∈ sizes) (hx : x < 2 * n - 1) (hp : pos (ndAt T x) = false) (ho : x % 2 = 1) : rsl T x = rsl T (lN x) ++ rsl T (rN x) := by
  obtain ⟨a1, a2, a3, a4, a5, a6, a7, a8, _⟩ := (span_of hn hx).2.1 ho
  have h3 := (span_of hn hx).2.2.2.1
  show rsF 5 T x = rsF 5 T (lN x) ++ rsF 5 T (rN x)
  rw [rsF_fuel hn 5 4 (lN x) a5 (by omega) (by omega), rsF_fuel hn 5 4 (rN x) a6 (by omega) (by omega)]
  conv => lhs; unfold rsF
  rw [if_neg (by simp [hp]), if_neg (by omega)]
/-- A proof over nodes from the leaves up. -/
theorem node_ind {n : Nat} (hn : n ∈ sizes) {P : Nat → Prop} (h0 : ∀ x, x < 2 * n - 1 → x % 2 = 0 → P x) (h1 : ∀ x, x < 2 * n - 1 → x % 2 = 1 → P (lN x) → P (rN x) → P x) : ∀ x, x < 2 * n - 1 → P x := by
  have key : ∀ (k x : Nat), x < 2 * n - 1 → lvl (x : Nat) ≤ (k : Nat) → P x := by
    intro k
    induction k with
    | zero =>
      intro x hx hl
      have s := (span_of hn hx).2.2
      exact h0 x hx (s.2.2.1.1 (by omega))
    | succ k ih =>
      intro x hx hl
      rcases Nat.mod_two_eq_zero_or_one x with c | c
      · exact h0 x hx c
      · obtain ⟨a1, a2, a3, a4, a5, a6, a7, a8, _⟩ := (span_of hn hx).2.1 c
        exact h1 x hx c (ih _ a5 (by omega)) (ih _ a6 (by omega))
  intro x hx
  exact key 3 x hx (span_of hn hx).2.2.2.1
theorem rsl_len {T : List Nd} (hw : Wd T) (hs : Sm T) : ∀ x, x < T.length → (rsl T x).length ≤ 9 * 2 ^ (lvl (x : Nat)).toNat := by
  obtain ⟨g1, g2, g3, g4, g5⟩ := hw.facts
  rw [g2]
  have hp1 : ∀ k : Nat, 1 ≤ 2 ^ k := fun k => Nat.one_le_two_pow
  refine node_ind g1 (fun x hx ho => ?_) (fun x hx ho i1 i2 => ?_)
  · have := hp1 (lvl (x : Nat)).toNat
    cases hp : pos (ndAt T x)
    · rw [rsl_leaf hp ho]; simp
    · rw [rsl_pos hp]; have := (hs x (by omega)).1; simp; omega
  · have h1 := hp1 (lvl (x : Nat)).toNat
    cases hp : pos (ndAt T x)
    · rw [rsl_par g1 hx hp ho, List.length_append]
      obtain ⟨a1, a2, a3, a4, a5, a6, a7, a8, _⟩ := (span_of g1 hx).2.1 ho
      have l0 := (span_of g1 a5).2.2.1
      have e1 : (lvl (lN x : Nat)).toNat = (lvl (rN x : Nat)).toNat := by omega
      have e2 : (lvl (x : Nat)).toNat = (lvl (rN x : Nat)).toNat + 1 := by omega
      rw [e1] at i1
      rw [e2, Nat.pow_succ]; omega
    · rw [rsl_pos hp]; have := (hs x (by omega)).1; simp; omega
theorem rsl_72 {T : List Nd} (hw : Wd T) (hs : Sm T) {x : Nat} (hx : x < T.length) : (rsl T x).length ≤ 72 := by
  have h := rsl_len hw hs x hx
  obtain ⟨g1, g2, g3, g4, g5⟩ := hw.facts
  have h3 := (span_of g1 (show x < 2 * nlv T - 1 by omega)).2.2.2.1
  have : (2 : Nat) ^ (lvl (x : Nat)).toNat ≤ 2 ^ 3 := Nat.pow_le_pow_right (by decide) (by omega)
  omega

theorem step_join {ops : Array Oper} {o : Oper} {a : Act} {w : World} {K : Act → World → Prop} {Q : Exit → Act → World → Prop} {E : Prop}
    (hg : o.guard = none) (s x : Operand) (hop : o.op = Op.call { callee := Callee.builtin Builtin.append, args := #[s, x], argTypes := #[55, 55] })
    (base : Nat) (v u : Value) (l l' : List Int) (hs : a.eval s = v) (hown : Ints base w v l) (hx : a.eval x = u) (hu : Nums w u l') (hlen : l.length + l'.length ≤ 100000) (hbase : base ≤ w.heap.size)
    (hK : ∀ v' w', Ints base w' v' (l ++ l') → w.grownBy w' v.ownBlock → (v'.ownBlock = v.ownBlock ∨ v'.ownBlock = some w.heap.size) → K (a.put o.dst v') w') :
    if Region.wanted o (yielded ops a.tmps) = true then Oper.wp Tryz.prog o a w K Q else E := by
  have hw : Region.wanted o (yielded ops a.tmps) = true := by simp [Region.wanted, hg]
  rw [if_pos hw]
  obtain ⟨i0, hi, hz0, hz1, hz2⟩ := info_parts Tryz.infoInt
  rcases hu with ⟨rfl, a', c', rfl, hac⟩ | ⟨g, off, cap, rfl, h1, h2, hc⟩
  · cases a' with
    | some ad =>
      obtain ⟨v', w', hr, r2, r3, _, r5⟩ := run_append_own_at (P := Tryz.prog) (w := w) base 55 o.type 3 i0 (.int .i64 0) 1 8 Tryz.underlying55 hi hz0 hz1 hz2 rfl (by decide) v l.length _ hown ad 0 c' [] (by simp) (by simp) (by simp) (by unfold maxLen; simp at hlen; omega) (by simp at hlen; omega) hbase
      unfold Oper.wp
      simp [execOp, hop, resolve, invoke, builtin, hs, hx, hr, Result.andThen]
      exact hK v' w' (by simpa [Ints] using r2) r3 r5
    | none =>
    obtain rfl := hac rfl
    have hrun := run_append_owned_none (P := Tryz.prog) (w := w) base 55 o.type 3 i0 1 Tryz.underlying55 hi v l.length _ hown
    unfold Oper.wp
    simp [execOp, hop, resolve, invoke, builtin, hs, hx, hrun, Result.andThen]
    exact hK v w (by simpa using hown) (World.grownBy.refl _ _) (Or.inl rfl)
  · have ea : ∀ j, (⟨g, off, none⟩ : Addr).add j = ⟨g, off + j, none⟩ := fun j => by
      unfold Addr.add; by_cases hj : j = 0 <;> simp [hj]
    obtain ⟨v', w', hr, r2, r3, _, r5⟩ := run_append_own_at (P := Tryz.prog) (w := w) base 55 o.type 3 i0 (.int .i64 0) 1 8 Tryz.underlying55 hi hz0 hz1 hz2 rfl (by decide) v l.length _ hown ⟨g, off, none⟩ l'.length cap (l'.map I64) (by simp)
      (fun j y hj => by
        rw [ea]
        simp only [List.getElem?_map, Option.map_eq_some_iff] at hj
        obtain ⟨z, hz, rfl⟩ := hj
        exact hc j z hz)
      (fun y hy => by obtain ⟨z, _, rfl⟩ := List.mem_map.1 hy; rfl) (by unfold maxLen; omega) (by omega) hbase
    unfold Oper.wp
    simp [execOp, hop, resolve, invoke, builtin, hs, hx, hr, Result.andThen]
    exact hK v' w' (by simpa [Ints] using r2) r3 r5
end Go.Proofs.YtcbafeneaoaglaaGreatDoor

/- The contract of resolution, of a node that is not blank. -/
namespace Go.Proofs.YtcbafeneaoaglaaGreatDoor
open Go.RowKit Go.Maps

end Go.Proofs.YtcbafeneaoaglaaGreatDoor

/- The contract of resolution: it calls itself. -/
namespace Go.Proofs.YtcbafeneaoaglaaGreatDoor
open Go.RowKit Go.Maps

end Go.Proofs.YtcbafeneaoaglaaGreatDoor
