/- The contracts of sched.Next and sched.From. -/
import Derived.Test.YtokdflbajnecpaaScB
namespace Go.Proofs.Ytokdflbajnecpaa.Tn
open Go.RowKit Go.Maps

def nxP (L : List Tm) (i c : Int) : Nat := mkN L ⟨3, 0, i, c⟩
def nxJ (L : List Tm) (i c : Int) : Nat := mkN (mkL L ⟨3, 0, i, c⟩) ⟨4, 3, (nxP L i c : Nat), 0⟩
def nxL (L : List Tm) (i c : Int) : List Tm := mkL (mkL L ⟨3, 0, i, c⟩) ⟨4, 3, (nxP L i c : Nat), 0⟩
theorem secA6 (a b c d e f : Int) : secA [a, b, c, d, e, f] = .agg #[.int .i64 a, .int .i64 b, .int .i64 c, .int .i64 d, .int .i64 e, .int .i64 f] := rfl
theorem may_pair {N : Nat} {a b : Int} (ha : thr N a = true) (hb : thr N b = true) : may N ⟨3, 0, a, b⟩ = true := by
  unfold may
  simp [ha, hb]
theorem ok_pair {a b : Int} (h : 0 ≤ a ∧ a ≤ 1048577 ∧ 0 ≤ b ∧ b ≤ 1048577) : Tm.ok ⟨3, 0, a, b⟩ := by
  constructor <;> simp <;> omega
theorem heap_size_alloc (w : World) (o : Obj) : (w.alloc o).heap.size = w.heap.size + 1 := by simp
theorem blk_before {w : World} {k : Nat} {o o' : Obj} (h : w.heap[k]? = some o) : (w.alloc o').heap[k]? = some o := by rw [Below.heap_alloc _ _ _ (lt_of_blk h)]; exact h
theorem blk4 (w : World) (o1 o2 o3 o4 : Obj) : (((((w.alloc o1).alloc o2).alloc o3).alloc o4).heap[w.heap.size]? = some o1) ∧ (((((w.alloc o1).alloc o2).alloc o3).alloc o4).heap[w.heap.size + 1]? = some o2) ∧ (((((w.alloc o1).alloc o2).alloc o3).alloc o4).heap[w.heap.size + 1 + 1]? = some o3) ∧ (((((w.alloc o1).alloc o2).alloc o3).alloc o4).heap[w.heap.size + 1 + 1 + 1]? = some o4) ∧ Below w.heap.size w ((((w.alloc o1).alloc o2).alloc o3).alloc o4) := by
  have h1 := heap_alloc_new w o1
  have h2 := heap_alloc_new (w.alloc o1) o2
  have h3 := heap_alloc_new ((w.alloc o1).alloc o2) o3
  have h4 := heap_alloc_new (((w.alloc o1).alloc o2).alloc o3) o4
  simp only [heap_size_alloc] at h1 h2 h3 h4
  exact ⟨blk_before (blk_before (blk_before h1)), blk_before (blk_before h2), blk_before h3, h4, (((bwA' _ _).alloc (by simp) _).alloc (by simp; omega) _).alloc (by simp; omega) _⟩
theorem blk3 (w : World) (o1 o2 o3 : Obj) : ((((w.alloc o1).alloc o2).alloc o3).heap[w.heap.size]? = some o1) ∧ ((((w.alloc o1).alloc o2).alloc o3).heap[w.heap.size + 1]? = some o2) ∧ ((((w.alloc o1).alloc o2).alloc o3).heap[w.heap.size + 1 + 1]? = some o3) ∧ Below w.heap.size w (((w.alloc o1).alloc o2).alloc o3) := by
  have h1 := heap_alloc_new w o1
  have h2 := heap_alloc_new (w.alloc o1) o2
  have h3 := heap_alloc_new ((w.alloc o1).alloc o2) o3
  simp only [heap_size_alloc] at h1 h2 h3
  exact ⟨blk_before (blk_before h1), blk_before h2, h3, ((bwA' _ _).alloc (by simp) _).alloc (by simp; omega) _⟩
end Go.Proofs.Ytokdflbajnecpaa.Tn
