/- SchedApart: three things that know terms, beside a store; what follows from an epoch's secrets. -/
import Derived.Test.YtcbafeneaoaglaaGreatDoorScJ
import Derived.Test.YtcbafeneaoaglaaGreatDoorZ22
namespace Go.Proofs.YtcbafeneaoaglaaGreatDoor.Tn
open Go.RowKit Go.Maps

/-- A block of one's own. -/
def resC (k : Nat) (cs : Array Value) (t : TypeId) : Res :=
  ⟨[k], fun w => w.heap[k]? = some (.cells cs t (0, 0)), fun w w' S h hf hd => by rw [hf.block k (lt_of_blk h) (hd k (by simp))]; exact h, fun w h x hx => by simp at hx; subst hx; exact lt_of_blk h⟩
theorem Env.perm {w wr : World} {rs rs' : List Res} (h : Env w wr rs) (hp : rs.Perm rs') : Env w wr rs' :=
  ⟨h.bel, fun r hr => h.hold r (hp.mem_iff.2 hr), fun r hr => h.low r (hp.mem_iff.2 hr), (hp.pairwise_iff (fun {_ _} hrs x hx c => hrs x c hx)).1 h.dis⟩
theorem env_next {w W : World} {b : Nat} {sv : Value} {mb : Nat} {L : List Tm} {rs : List Res} (h : Env w W (resS b sv mb L :: rs)) (i c x : Int) (hl : L.length + 160 ≤ 1048576) :
    Calls Tryz.prog 11 #[.pointer (some ⟨b, 0, none⟩), .int .i64 i, .int .i64 c, .int .i64 x] W fun e W' => e = .returned (.tuple #[secA (nxtV L i c x), .int .i64 (nxtE L i c x)]) ∧ ∃ sv', Env w W' (resS b sv' mb (nxtL L i c x) :: rs) := by
  refine (next_any (L := L) h.hd i c x hl).mono ?_
  rintro e W' ⟨rfl, sv', s⟩
  exact ⟨rfl, sv', h.step (r' := resS b sv' mb (nxtL L i c x)) (go_S s) s.st⟩

/-- What follows stays within a set that has what is known and is closed. -/
theorem fol_in {L : List Tm} {K S : Nat → Prop} (hk : ∀ m, 1 ≤ m → m ≤ L.length → K m → S m)
    (hm : ∀ m, 1 ≤ m → m ≤ L.length → kdOf L m ≠ 1 → (pA L m ≠ 0 → S (pA L m)) → (pB L m ≠ 0 → S (pB L m)) → S m)
    (h3 : ∀ m, S m → kdOf L m ≠ 3 ∧ kdOf L m ≠ 6) {m : Nat} (h : Fol L K m) : S m := by
  induction h with
  | known a b c => exact hk _ a b c
  | make a b c d e i1 i2 => exact hm _ a b c i1 i2
  | pairA a b i => exact absurd b (h3 _ i).1
  | pairB a b i => exact absurd b (h3 _ i).1
  | opens a b c i1 i2 => exact absurd b (h3 _ i1).2

def ap0 (n : Int) : List Tm := [⟨1, n, 0, 0⟩, ⟨1, n + 1, 0, 0⟩, ⟨1, n + 2, 0, 0⟩]
def ap (n : Int) : List Tm := [⟨1, n, 0, 0⟩, ⟨1, n + 1, 0, 0⟩, ⟨1, n + 2, 0, 0⟩, ⟨3, 0, 1, 2⟩, ⟨4, 3, 4, 0⟩, ⟨4, 4, 5, 3⟩, ⟨4, 5, 6, 0⟩, ⟨4, 6, 6, 0⟩, ⟨4, 7, 6, 0⟩, ⟨4, 8, 6, 0⟩]
theorem ap_fill (n : Int) (hn : 0 ≤ n) : fillL [] (ap0 n) = ap0 n := by
  have h1 : 0 ≤ n + 1 := by omega
  have h2 : 0 ≤ n + 2 := by omega
  have e1 : ¬ n + 1 = n := by omega
  have e2 : ¬ n + 2 = n := by omega
  have e3 : ¬ n + 2 = n + 1 := by omega
  simp [fillL, ap0, mkL, may, hn, h1, h2, e1, e2, e3]
theorem ap_next (n : Int) : nxtL (ap0 n) 1 2 3 = ap n ∧ nxtV (ap0 n) 1 2 3 = [5, 6, 7, 8, 9, 10] ∧ nxtE (ap0 n) 1 2 3 = 0 := by
  refine ⟨?_, ?_, ?_⟩
  · kernel_rfl
  · kernel_rfl
  · kernel_rfl
theorem ap_at (n : Int) : kdOf (ap n) 1 = 1 ∧ kdOf (ap n) 2 = 1 ∧ kdOf (ap n) 3 = 1 ∧ (kdOf (ap n) 4 = 3 ∧ pA (ap n) 4 = 1 ∧ pB (ap n) 4 = 2) ∧ (kdOf (ap n) 5 = 4 ∧ pA (ap n) 5 = 4 ∧ pB (ap n) 5 = 0) ∧ (kdOf (ap n) 6 = 4 ∧ pA (ap n) 6 = 5 ∧ pB (ap n) 6 = 3) ∧ ∀ i, i < 4 → (kdOf (ap n) (7 + i) = 4 ∧ pA (ap n) (7 + i) = 6 ∧ pB (ap n) (7 + i) = 0) := by
  refine ⟨rfl, rfl, rfl, ⟨rfl, rfl, rfl⟩, ⟨rfl, rfl, rfl⟩, ⟨rfl, rfl, rfl⟩, fun i hi => ?_⟩
  match i, hi with
  | 0, _ | 1, _ | 2, _ | 3, _ => exact ⟨rfl, rfl, rfl⟩
theorem ap_len (n : Int) : (ap n).length = 10 := rfl
/-- A set of the ten that has neither the pair nor the Joiner is closed, if it has the Epoch only with all four. -/
theorem ap_closed {n : Int} {K S : Nat → Prop} (hk : ∀ m, 1 ≤ m → m ≤ 10 → K m → S m) (h4 : ¬ S 4) (h5 : ¬ S 5) (h12 : ¬ (S 1 ∧ S 2)) (h7 : S 6 → S 7 ∧ S 8 ∧ S 9 ∧ S 10) {m : Nat} (h : Fol (ap n) K m) : S m := by
  obtain ⟨k1, k2, k3, ⟨k4, a4, b4⟩, ⟨k5, a5, b5⟩, ⟨k6, a6, b6⟩, k7⟩ := ap_at n
  obtain ⟨⟨c7, a7, b7⟩, ⟨c8, a8, b8⟩, ⟨c9, a9, b9⟩, ⟨c10, a10, b10⟩⟩ : (kdOf (ap n) 7 = 4 ∧ pA (ap n) 7 = 6 ∧ pB (ap n) 7 = 0) ∧ (kdOf (ap n) 8 = 4 ∧ pA (ap n) 8 = 6 ∧ pB (ap n) 8 = 0) ∧ (kdOf (ap n) 9 = 4 ∧ pA (ap n) 9 = 6 ∧ pB (ap n) 9 = 0) ∧ (kdOf (ap n) 10 = 4 ∧ pA (ap n) 10 = 6 ∧ pB (ap n) 10 = 0) := ⟨k7 0 (by omega), k7 1 (by omega), k7 2 (by omega), k7 3 (by omega)⟩
  have hS : S m ∧ (1 ≤ m ∧ m ≤ 10) := by
    refine fol_in (L := ap n) (S := fun m => S m ∧ (1 ≤ m ∧ m ≤ 10)) (fun m a b c => ⟨hk m a b c, a, b⟩) ?_ ?_ h
    · intro m a b c d e
      have b' : m ≤ 10 := b
      refine ⟨?_, a, b'⟩
      obtain rfl | rfl | rfl | rfl | rfl | rfl | rfl | rfl | rfl | rfl : m = 1 ∨ m = 2 ∨ m = 3 ∨ m = 4 ∨ m = 5 ∨ m = 6 ∨ m = 7 ∨ m = 8 ∨ m = 9 ∨ m = 10 := by omega
      · exact absurd k1 c
      · exact absurd k2 c
      · exact absurd k3 c
      · rw [a4] at d; rw [b4] at e
        exact absurd ⟨(d (by omega)).1, (e (by omega)).1⟩ h12
      · rw [a5] at d; exact absurd (d (by omega)).1 h4
      · rw [a6] at d; exact absurd (d (by omega)).1 h5
      · rw [a7] at d; exact (h7 (d (by omega)).1).1
      · rw [a8] at d; exact (h7 (d (by omega)).1).2.1
      · rw [a9] at d; exact (h7 (d (by omega)).1).2.2.1
      · rw [a10] at d; exact (h7 (d (by omega)).1).2.2.2
    · intro m ⟨hm, a, b⟩
      obtain rfl | rfl | rfl | rfl | rfl | rfl | rfl | rfl | rfl | rfl : m = 1 ∨ m = 2 ∨ m = 3 ∨ m = 4 ∨ m = 5 ∨ m = 6 ∨ m = 7 ∨ m = 8 ∨ m = 9 ∨ m = 10 := by omega
      · rw [k1]; decide
      · rw [k2]; decide
      · rw [k3]; decide
      · exact absurd hm h4
      · exact absurd hm h5
      · rw [k6]; decide
      · rw [c7]; decide
      · rw [c8]; decide
      · rw [c9]; decide
      · rw [c10]; decide
  exact hS.1
/-- From one of the four, and the context. -/
theorem ap_one (n : Int) (j : Nat) (hj : j < 4) (m : Nat) : hasB (ap n) (fun m => (m : Int) ∈ [7 + (j : Int), 3]) (m : Int) = decide (m = 7 + j ∨ m = 3) := by
  have hiff : Fol (ap n) (fun m => (m : Int) ∈ [7 + (j : Int), 3]) m ↔ (m = 7 + j ∨ m = 3) := by
    constructor
    · intro h
      exact ap_closed (S := fun m => m = 7 + j ∨ m = 3) (fun m _ _ c => by simp at c; omega) (by omega) (by omega) (by omega) (fun c => by omega) h
    · intro h
      refine Fol.known (by omega) (by rw [ap_len]; omega) ?_
      simp; omega
  have := hasB_iff (L := ap n) (K := fun m => (m : Int) ∈ [7 + (j : Int), 3]) (x := (m : Int))
  rw [Int.toNat_natCast] at this
  cases hb : hasB (ap n) (fun m => (m : Int) ∈ [7 + (j : Int), 3]) (m : Int)
  · symm; rw [decide_eq_false_iff_not]
    intro c
    have := this.2 ⟨by omega, hiff.2 c⟩
    rw [hb] at this; cases this
  · symm; rw [decide_eq_true_iff]
    exact hiff.1 (this.1 hb).2
theorem ap_all (n : Int) (m : Nat) (hm : m ≤ 10) : hasB (ap n) (fun m => (m : Int) ∈ [6, 3]) (m : Int) = decide (m = 3 ∨ 6 ≤ m) := by
  obtain ⟨-, -, -, -, -, -, k7⟩ := ap_at n
  have h6 : Fol (ap n) (fun m => (m : Int) ∈ [6, 3]) 6 := Fol.known (by omega) (by rw [ap_len]; omega) (by simp)
  have hiff : Fol (ap n) (fun m => (m : Int) ∈ [6, 3]) m ↔ (m = 3 ∨ 6 ≤ m) := by
    constructor
    · intro h
      exact ap_closed (S := fun m => m = 3 ∨ 6 ≤ m) (fun m _ _ c => by simp at c; omega) (by omega) (by omega) (by omega) (fun c => by omega) h
    · intro h
      obtain rfl | rfl | h : m = 3 ∨ m = 6 ∨ 7 ≤ m := by omega
      · exact Fol.known (by omega) (by rw [ap_len]; omega) (by simp)
      · exact h6
      · obtain ⟨i, rfl⟩ : ∃ i, m = 7 + i := ⟨m - 7, by omega⟩
        obtain ⟨q1, q2, q3⟩ := k7 i (by omega)
        exact Fol.make (by omega) (by rw [ap_len]; omega) (by rw [q1]; decide) (fun _ => by rw [q2]; exact h6) (fun c => absurd q3 c)
  have := hasB_iff (L := ap n) (K := fun m => (m : Int) ∈ [6, 3]) (x := (m : Int))
  rw [Int.toNat_natCast] at this
  cases hb : hasB (ap n) (fun m => (m : Int) ∈ [6, 3]) (m : Int)
  · symm; rw [decide_eq_false_iff_not]
    intro c
    have := this.2 ⟨by omega, hiff.2 c⟩
    rw [hb] at this; cases this
  · symm; rw [decide_eq_true_iff]
    exact hiff.1 (this.1 hb).2
theorem ap_old (n : Int) (m : Nat) : hasB (ap n) (fun m => (m : Int) ∈ [1, 3]) (m : Int) = decide (m = 1 ∨ m = 3) := by
  have hiff : Fol (ap n) (fun m => (m : Int) ∈ [1, 3]) m ↔ (m = 1 ∨ m = 3) := by
    constructor
    · intro h
      exact ap_closed (S := fun m => m = 1 ∨ m = 3) (fun m _ _ c => by simp at c; omega) (by omega) (by omega) (by omega) (fun c => by omega) h
    · intro h
      refine Fol.known (by omega) (by rw [ap_len]; omega) ?_
      simp; omega
  have := hasB_iff (L := ap n) (K := fun m => (m : Int) ∈ [1, 3]) (x := (m : Int))
  rw [Int.toNat_natCast] at this
  cases hb : hasB (ap n) (fun m => (m : Int) ∈ [1, 3]) (m : Int)
  · symm; rw [decide_eq_false_iff_not]
    intro c
    have := this.2 ⟨by omega, hiff.2 c⟩
    rw [hb] at this; cases this
  · symm; rw [decide_eq_true_iff]
    exact hiff.1 (this.1 hb).2
end Go.Proofs.YtcbafeneaoaglaaGreatDoor.Tn
