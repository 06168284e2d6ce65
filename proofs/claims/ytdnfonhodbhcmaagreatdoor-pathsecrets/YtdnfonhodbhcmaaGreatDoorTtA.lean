/- Copies of lists of numbers with marks behind them: TwinNumbers and LeftNumbers of phratrylaw01, behind layer 8. -/
import Derived.Test.YtdnfonhodbhcmaaGreatDoorZ04
import Derived.Test.YtdnfonhodbhcmaaGreatDoorZ02
import Derived.Laws.Tables
import Derived.Laws.CopyRow
import Derived.Laws.IdiomCopy
namespace Go.Proofs.YtdnfonhodbhcmaaGreatDoor
open Go.RowKit Go.Maps

theorem ret_i {k : IntKind} {a b : Int} (h : a = b) : Ending.returned (.int k a) = .returned (.int k b) := by rw [h]
theorem ret_bool {a b : Bool} (h : a = b) : Ending.returned (.bool a) = .returned (.bool b) := by rw [h]
theorem made_zero (n k : Nat) (h : k < n) : (madeCells (Value.int .i64 0).cells (n * 1)).toList[k]? = some (.int .i64 0) := by
  simp [madeCells, Value.cells, h, Nat.mod_one]
theorem frozen_of_blk0 {w : World} {b : Nat} {cs : Array Value} {t : TypeId} (h : w.heap[b]? = some (.cells cs t (0, 0))) (o : Nat) : w.frozen? ⟨b, o, none⟩ = false := by simp [World.frozen?, h]
theorem nums_parts {w : World} {v : Value} {l : List Int} (h : Nums w v l) : ∃ a cap, v = .slice a l.length cap ∧ (l = [] ∨ ∃ g o, a = some ⟨g, o, none⟩ ∧ ∀ i z, l[i]? = some z → w.cell? ⟨g, o + i, none⟩ = some (.int .i64 z)) := by
  rcases h with ⟨rfl, a, c, rfl, _⟩ | ⟨g, o, cap, rfl, _, _, hc⟩
  · exact ⟨a, c, rfl, Or.inl rfl⟩
  · exact ⟨_, cap, rfl, Or.inr ⟨g, o, rfl, hc⟩⟩
def mkI (n : Nat) : Int := -1000 - (n : Int)
def tw (l : List Int) (x y : Int) : Array Value := ((l.map fun z => Value.int .i64 z) ++ [Value.int .i64 x, Value.int .i64 y]).toArray
theorem tw_cell {w : World} {g : Nat} {l : List Int} {x y : Int} {t : TypeId} (h : w.heap[g]? = some (.cells (tw l x y) t (0, 0))) : w.cell? ⟨g, l.length, none⟩ = some (.int .i64 x) ∧ w.cell? ⟨g, l.length + 1, none⟩ = some (.int .i64 y) := by
  simp [World.cell?, h, tw]
theorem tw_set {w : World} {g : Nat} {l : List Int} {x y : Int} {t : TypeId} (h : w.heap[g]? = some (.cells (tw l x y) t (0, 0))) (m : Int) : (w.setCell ⟨g, l.length, none⟩ (.int .i64 m)).heap[g]? = some (.cells (tw l m y) t (0, 0)) ∧ (w.setCell ⟨g, l.length + 1, none⟩ (.int .i64 m)).heap[g]? = some (.cells (tw l x m) t (0, 0)) := by
  constructor <;> simp [World.setCell, Array.getElem?_modify, h, tw, List.set_append_right]

theorem Tryz.sizeint : (Tryz.prog.info? 3).map (·.size) = some 1 := by kernel_rfl
theorem slice_roomint (w : World) (g n cap i : Nat) (hi : i ≤ cap) : (Instr.slice 27 (.slice (some ⟨g, 0, none⟩) n cap) none (some (.int .i64 (i : Int))) none).run Tryz.prog w = .ok (.slice (some ⟨g, 0, none⟩) i cap) w := by
  have ht : Tryz.prog.underlying 27 = some (.slice (Tryz.prog.elem 27)) := by kernel_rfl
  have he : Tryz.prog.elem 27 = 3 := by kernel_rfl
  have hs : (Go.sizeOf 3).run Tryz.prog w = .ok 1 w := by kernel_rfl
  rw [run_slice_h (P := Tryz.prog) w 27 (some ⟨g, 0, none⟩) n cap ht .i64 i (by omega) (by omega), he, hs]
  simp [Result.andThen, sliced, Addr.add]
def Twint (w : World) (g : Nat) (l : List Int) : Prop := w.heap[g]? = some (.cells (tw l (mkI l.length) (mkI (l.length + 1))) 3 (0, 0))
theorem copyint (w : World) (v : Value) (l : List Int) (hv : Nums w v l) (hl : l.length ≤ 1048576) : ∃ wc, (∀ ty, (Builtin.copy_ #[27, 27] ty #[.slice (some ⟨w.heap.size, 0, none⟩) l.length (l.length + 2), v]).run Tryz.prog (w.alloc (.cells (madeCells (Value.int .i64 0).cells (l.length + 2)) 3)) = .ok (goInt l.length) wc) ∧
    wc.heap[w.heap.size]? = some (.cells (tw l 0 0) 3 (0, 0)) ∧ Below w.heap.size w wc ∧ w.heap.size < wc.heap.size := by
  obtain ⟨a, cap, rfl, hc⟩ := nums_parts hv
  obtain ⟨cur, hcur⟩ : ∃ cur, cur = madeCells (Value.int .i64 0).cells (l.length + 2) := ⟨_, rfl⟩
  have hcs : cur.toList = List.replicate (l.length + 2) (.int .i64 0) := by
    apply List.ext_getElem?
    intro i
    rw [hcur]
    rcases Nat.lt_or_ge i (l.length + 2) with q | q
    · have := made_zero (l.length + 2) i q
      rw [Nat.mul_one] at this
      rw [this, List.getElem?_replicate, if_pos q]
    · rw [List.getElem?_eq_none (by simp [madeCells]; exact q), List.getElem?_eq_none (by simpa using q)]
  rw [← hcur]
  have hG := heap_alloc_new w (.cells cur 3)
  have hb := bwA w (.cells cur 3)
  rcases hc with hc | ⟨g, o, rfl, hc⟩
  · subst hc
    refine ⟨w.alloc (.cells cur 3), fun ty => ?_, ?_, hb, by simp⟩
    · exact run_copy_none _ _ _ _ 3 _ _ _ _ _ _ Tryz.underlying27 Tryz.sizeint (by simp)
    · rw [hG]
      have : cur = tw [] 0 0 := by apply Array.toList_inj.1; rw [hcs]; rfl
      rw [this]
  · have hr := fun ty => run_copy_row (P := Tryz.prog) (w.alloc (.cells cur 3)) 27 27 ty 3 w.heap.size 0 l.length (l.length + 2) ⟨g, o, none⟩ l.length cap cur 3 (l.map fun z => .int .i64 z) Tryz.underlying27 Tryz.sizeint hG (by simp) (fun j u hj => by
        rw [List.getElem?_map] at hj
        cases hz : l[j]? with
        | none => rw [hz] at hj; cases hj
        | some z =>
          rw [hz] at hj
          simp only [Option.map_some, Option.some.injEq] at hj
          subst hj
          have c := hc j z hz
          have e : (⟨g, o, none⟩ : Addr).add j = ⟨g, o + j, none⟩ := by cases j <;> simp [Addr.add]
          rw [e, World.cell?_of_block (w := w) (hb.block _ (lt_of_cell (a := ⟨g, o + j, none⟩) c))]
          exact c) (by have : cur.toList.length = l.length + 2 := by rw [hcs]; simp
                       simp at this ⊢; omega) (fun u hu => by obtain ⟨z, _, rfl⟩ := List.mem_map.1 hu; rfl)
    refine ⟨(w.alloc (.cells cur 3)).setRow w.heap.size ((l.map fun z => Value.int .i64 z) ++ cur.toList.drop l.length).toArray, fun ty => by rw [hr ty]; simp, ?_, ?_, ?_⟩
    · rw [setRow_heap _ _ cur _ 3 _ hG]
      congr 2
      apply Array.toList_inj.1
      simp [hcs, tw]
    · refine ⟨hb.os, hb.tape, hb.output, ?_, fun k hk => ?_⟩
      · simp
      · rw [setRow_other _ _ _ _ (by omega)]; exact hb.block k hk
    · simp

theorem Twint.ints {B : Nat} {w : World} {g : Nat} {l : List Int} (h : Twint w g l) (hl : l.length ≤ 1048576) (hB : B ≤ g) : Ints B w (.slice (some ⟨g, 0, none⟩) l.length (l.length + 2)) l := by
  refine ⟨by simp, Or.inr ⟨g, l.length + 2, _, rfl, hB, h, by omega, by unfold maxLen; omega, by simp [tw], ?_⟩⟩
  simp [tw, I64]
end Go.Proofs.YtdnfonhodbhcmaaGreatDoor
