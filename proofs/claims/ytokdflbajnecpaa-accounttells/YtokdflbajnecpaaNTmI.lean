/- The contract of lives, the end of every law of layer 3. -/
import Derived.Test.YtokdflbajnecpaaNTmH
namespace Go.Proofs.Ytokdflbajnecpaa.Tn
open Go.RowKit Go.Maps

def l1 : List Tm := [⟨1, 7, 0, 0⟩]
def l2 : List Tm := [⟨1, 7, 0, 0⟩, ⟨2, 3, 0, 0⟩]
def l3 : List Tm := [⟨1, 7, 0, 0⟩, ⟨2, 3, 0, 0⟩, ⟨3, 0, 1, 2⟩]
theorem lives_facts : mkN [] ⟨1, 7, 0, 0⟩ = 1 ∧ mkE [] ⟨1, 7, 0, 0⟩ = 0 ∧ mkL [] ⟨1, 7, 0, 0⟩ = l1 ∧ dt l1 [3] = (l2, 2, 0) ∧ ls l2 [1, 2] = (l3, 3, 0) ∧ dag l3 3 = l3 := by decide +kernel

theorem nis_one (w : World) (x : Int) (t : TypeId) (h : -9223372036854775808 ≤ x ∧ x ≤ 9223372036854775807) : NIs (w.alloc (.cells #[.int .i64 x] t)) (.slice (some ⟨w.heap.size, 0, none⟩) 1 1) [x] := by
  refine ⟨_, 1, rfl, by simp, by simpa using h, Or.inr ⟨w.heap.size, 0, rfl, fun i z hi => ?_⟩⟩
  match i, hi with
  | 0, hi => simp at hi; subst hi; unfold World.cell?; simp only [heap_alloc_new]; rfl
  | i + 1, hi => simp at hi
theorem nis_two (w : World) (x y : Int) (t : TypeId) (h : -9223372036854775808 ≤ x ∧ x ≤ 9223372036854775807) (h' : -9223372036854775808 ≤ y ∧ y ≤ 9223372036854775807) : NIs (w.alloc (.cells #[.int .i64 x, .int .i64 y] t)) (.slice (some ⟨w.heap.size, 0, none⟩) 2 2) [x, y] := by
  refine ⟨_, 2, rfl, by simp, ?_, Or.inr ⟨w.heap.size, 0, rfl, fun i z hi => ?_⟩⟩
  · intro z hz
    rcases List.mem_cons.1 hz with rfl | hz
    · exact h
    · simp at hz; subst hz; exact h'
  · match i, hi with
    | 0, hi => simp at hi; subst hi; unfold World.cell?; simp only [heap_alloc_new]; rfl
    | 1, hi => simp at hi; subst hi; unfold World.cell?; simp only [heap_alloc_new]; rfl
    | i + 2, hi => simp at hi
theorem sep_new {w : World} {b : Nat} {sv : Value} {mb : Nat} {L : List Tm} (h : St w b sv mb L) (n c : Nat) : ∀ k, (Value.slice (some ⟨w.heap.size, 0, none⟩) n c).ownBlock = some k → k ∉ foot b sv mb := by
  intro k hk hc
  have := h.lt k hc
  simp [Value.ownBlock] at hk
  omega
theorem bw_alloc (w : World) (o : Obj) : Below w.heap.size w (w.alloc o) := (Below.refl _ _).alloc (Nat.le_refl _) _
theorem lives_dag (w : World) : Tms (w.alloc (.cells #[.int .u8 1, .int .i64 7, .int .i64 0, .int .i64 0, .int .u8 2, .int .i64 3, .int .i64 0, .int .i64 0, .int .u8 3, .int .i64 0, .int .i64 1, .int .i64 2] 55)) (.slice (some ⟨w.heap.size, 0, none⟩) 3 3) l3 := by
  refine ⟨_, 3, rfl, by simp [l3], Or.inr ⟨w.heap.size, 0, rfl, fun i t hi => ?_⟩⟩
  unfold TAt World.cell?
  simp only [heap_alloc_new]
  match i, hi with
  | 0, hi | 1, hi | 2, hi => simp [l3] at hi; subst hi; exact ⟨rfl, rfl, rfl, rfl⟩
  | i + 3, hi => simp [l3] at hi

end Go.Proofs.Ytokdflbajnecpaa.Tn
