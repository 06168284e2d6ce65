/- The contract of alive, the end of every law of layer 8. -/
import Derived.Test.YtcbafeneaoaglaaGreatDoorZ11
namespace Go.Proofs.YtcbafeneaoaglaaGreatDoor
open Go.RowKit Go.Maps

def aT1 : List Nd := addR [] 5 0 1
def aT2 : List Nd := addR aT1 6 0 2
def aT3 : List Nd := setT aT2 0 1 3 [4]
def aT4 : List Nd := addR aT3 7 0 5
def aT5 : List Nd := remR aT4 6
theorem lits8 : (addE [] 5 0 1 = 0 ∧ addE aT1 6 0 2 = 0 ∧ addA aT1 6 0 2 = 1 ∧ setE aT2 0 1 3 [4] = 0 ∧ addE aT3 7 0 5 = 0 ∧ addA aT3 7 0 5 = 2) ∧ (resE aT4 3 = 0 ∧ rsl aT4 3 = [1, 4] ∧ remE aT4 6 = 0 ∧ mems aT5 = [5, 7] ∧ mayB [nd0, nd0] = false) ∧ (mayB aT1 = true ∧ mayB aT2 = true ∧ mayB aT3 = true ∧ mayB aT4 = true ∧ mayB aT5 = true) := by decide +kernel
theorem OTr.trdM {B : Nat} {w : World} {v : Value} {T : List Nd} {us : List Value} (h : OTr B w v T us) (hm : mayB T = true) : Trd w v T :=
  h.trd (by have := (mayB_15 hm).1; omega) (fun n hn => by have := un_len hm n hn; omega)
theorem two_ownB (w : World) (a b : Int) : Ints 0 (w.alloc (.cells #[.int .i64 a, .int .i64 b] 3)) (.slice (some ⟨w.heap.size, 0, none⟩) 2 2) [a, b] :=
  ⟨rfl, Or.inr ⟨w.heap.size, 2, #[.int .i64 a, .int .i64 b], rfl, Nat.zero_le _, heap_alloc_new w _, Nat.le_refl _, by unfold maxLen; omega, rfl, rfl⟩⟩
end Go.Proofs.YtcbafeneaoaglaaGreatDoor
