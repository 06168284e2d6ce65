/- The contract of Dag of package term. -/
import Derived.Test.YtokdflbajnecpaaNTmD
namespace Go.Proofs.Ytokdflbajnecpaa.Tn
open Go.RowKit Go.Maps

def lenOf : Value → Nat
  | .slice _ n _ => n
  | _ => 0
/-- What is begun next. -/
theorem unt_step {L : List Tm} (hG : Good L) {m : Nat} {o : List Nat} (h1 : 1 ≤ m) (h2 : m ≤ L.length) (ho : m ∉ o) (h : unt o (pA L m) (pB L m) ≠ 0) :
    1 ≤ unt o (pA L m) (pB L m) ∧ unt o (pA L m) (pB L m) < m ∧ unt o (pA L m) (pB L m) ∉ o ∧ ordF L L.length m (ordF L L.length (unt o (pA L m) (pB L m)) o) = ordF L L.length m o := by
  obtain ⟨p1, p2⟩ := hG.parts h1 h2
  unfold unt at h ⊢
  by_cases c1 : pA L m ≠ 0 ∧ pA L m ∉ o
  · rw [if_pos c1]
    exact ⟨by omega, p1, c1.2, ordF_pushA hG h1 h2 h2 ho⟩
  · rw [if_neg c1] at h ⊢
    by_cases c2 : pB L m ≠ 0 ∧ pB L m ∉ o
    · rw [if_pos c2]
      refine ⟨by omega, p2, c2.2, ordF_pushB hG h1 h2 h2 ho ?_⟩
      by_cases c : pA L m = 0
      · exact Or.inl c
      · exact Or.inr (Classical.byContradiction fun q => c1 ⟨c, q⟩)
    · rw [if_neg c2] at h; exact absurd rfl h
theorem unt_none {o : List Nat} {a b : Nat} (h : unt o a b = 0) : (a = 0 ∨ a ∈ o) ∧ (b = 0 ∨ b ∈ o) := by
  unfold unt at h
  split at h
  · rename_i c; exact absurd h c.1
  · rename_i c1
    split at h
    · rename_i c; exact absurd h c.1
    · rename_i c2
      exact ⟨Classical.byContradiction fun q => c1 ⟨fun z => q (Or.inl z), fun z => q (Or.inr z)⟩, Classical.byContradiction fun q => c2 ⟨fun z => q (Or.inl z), fun z => q (Or.inr z)⟩⟩

theorem Dg.start {w : World} {L : List Tm} {n : Nat} (h1 : 1 ≤ n) (h2 : n ≤ L.length) : Dg w ((w.alloc (.map #[] 0)).alloc (.cells #[.int .i64 (n : Int)] 3)) L w.heap.size (.slice none 0 0) (.slice (some ⟨w.heap.size + 1, 0, none⟩) 1 1) [n] [] := by
  have e : (w.alloc (.map #[] 0)).heap.size = w.heap.size + 1 := by simp
  refine ⟨⟨by simp; omega, by simp⟩, told_nil L, TmRow.nil _ _, ?_, ?_, Nat.le_refl _, ?_⟩
  · refine ⟨rfl, Or.inr ⟨w.heap.size + 1, 1, #[.int .i64 (n : Int)], rfl, by omega, ?_, Nat.le_refl _, by unfold maxLen; omega, rfl, rfl⟩⟩
    rw [← e]; exact heap_alloc_new _ _
  · exact (PMap.made w).bw ((Below.refl _ _).alloc (Nat.le_refl _) _)
  · exact ((Below.refl _ _).alloc (Nat.le_refl _) _).alloc (by simp) _

theorem slice_upto (w : World) (g n cap i : Nat) (hi : i ≤ n) (hc : n ≤ cap) : (Instr.slice 24 (.slice (some ⟨g, 0, none⟩) n cap) none (some (.int .i64 (i : Int))) none).run Try.prog w = .ok (.slice (some ⟨g, 0, none⟩) i cap) w := by
  have ht : Try.prog.underlying 24 = some (.slice (Try.prog.elem 24)) := by kernel_rfl
  have he : Try.prog.elem 24 = 3 := by kernel_rfl
  have hs : (Go.sizeOf 3).run Try.prog w = .ok 1 w := by kernel_rfl
  rw [run_slice_h (P := Try.prog) w 24 (some ⟨g, 0, none⟩) n cap ht .i64 i (by omega) (by omega), he, hs]
  simp [Result.andThen, sliced, Addr.add]
theorem own_form {B : Nat} {w : World} {e : TypeId} {c : Nat} {v : Value} {n : Nat} {xs : List Value} (h : w.ownsRow B e c v (n + 1) xs) : ∃ g cap, v = .slice (some ⟨g, 0, none⟩) (n + 1) cap := by
  rcases h.2 with ⟨_, h⟩ | ⟨g, cap, _, h, _⟩
  · omega
  · exact ⟨g, cap, h⟩
theorem fin_snoc (L : List Tm) (f : Nat) (s o : List Nat) (m : Nat) : fin L f (s ++ [m]).reverse o = fin L f s.reverse (ordF L f m o) := by
  rw [List.reverse_append]; rfl
theorem lenOf_row {B : Nat} {w : World} {v : Value} {l : List Tm} (h : TmRow B w v l) : lenOf v = l.length := by
  rcases h.form with ⟨rfl, rfl⟩ | ⟨g, cap, rfl, _⟩ <;> rfl

theorem meas {N a q : Nat} (h : a < N) (hq : q + 1 ≤ N) : (N - (a + 1)) * (N + 2) + (N + 1 - q) < (N - a) * (N + 2) + (N + 1 - (q + 1)) := by
  have e : N - a = (N - (a + 1)) + 1 := by omega
  rw [e, Nat.succ_mul]
  generalize (N - (a + 1)) * (N + 2) = Z
  omega

end Go.Proofs.Ytokdflbajnecpaa.Tn
