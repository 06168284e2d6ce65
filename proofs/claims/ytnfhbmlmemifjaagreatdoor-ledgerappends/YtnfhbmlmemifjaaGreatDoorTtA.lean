/- Copies of lists of numbers with marks behind them: TwinNumbers and LeftNumbers of phratrylaw01, behind layer 8. -/
import Derived.Test.YtnfhbmlmemifjaaGreatDoorZ04
import Derived.Test.YtnfhbmlmemifjaaGreatDoorZ02
import Derived.Laws.Tables
import Derived.Laws.CopyRow
import Derived.Laws.IdiomCopy
namespace Go.Proofs.YtnfhbmlmemifjaaGreatDoor
open Go.RowKit Go.Maps
theorem ret_i {k : IntKind} {a b : Int} (h : a = b) : Ending.returned (.int k a) = .returned (.int k b) := by rw [h]
theorem ret_bool {a b : Bool} (h : a = b) : Ending.returned (.bool a) = .returned (.bool b) := by rw [h]
theorem made_zero (n k : Nat) (h : k < n) : (madeCells (Value.int .i64 0).cells (n * 1)).toList[k]? = some (.int .i64 0) := by
  simp [madeCells, Value.cells, h, Nat.mod_one]
theorem frozen_of_blk0 {w : World} {b : Nat} {cs : Array Value} {t : TypeId} (h : w.heap[b]? = some (.cells cs t (0, 0))) (o : Nat) : w.frozen? ⟨b, o, none⟩ = false := by simp [World.frozen?, h]
theorem nums_parts {w : World} {v : Value} {l : List Int} (h : Nums w v l) : ∃ a cap, v = .slice a l.length cap ∧ (l = [] ∨ ∃ g o, a = some ⟨g, o, none⟩ ∧ ∀ i z, l[i]? = some z → w.cell? ⟨g, o + i, none⟩ = some (.int .i64 z)) := by
  rcases h with ⟨rfl, a, c, rfl, _⟩ | ⟨g, o, cap, rfl, _, _, hc⟩
  · exact ⟨a, c, rfl, Or.inl rfl⟩
  · exact ⟨_, cap, rfl, Or.inr ⟨g, o, rfl, hc⟩⟩
def mkI (n : Nat) : Int := -1000 - (n : Int)
def tw (l : List Int) (x y : Int) : Array Value := ((l.map fun z => Value.int .i64 z) ++ [Value.int .i64 x, Value.int .i64 y]).toArray
theorem tw_cell {w : World} {g : Nat} {l : List Int} {x y : Int} {t : TypeId} (h : w.heap[g]? = some (.cells (tw l x y) t (0, 0))) : w.cell? ⟨g, l.length, none⟩ = some (.int .i64 x) ∧ w.cell? ⟨g, l.length + 1, none⟩ = some (.int .i64 y) := by
  simp [World.cell?, h, tw]
theorem tw_set {w : World} {g : Nat} {l : List Int} {x y : Int} {t : TypeId} (h : w.heap[g]? = some (.cells (tw l x y) t (0, 0))) (m : Int) : (w.setCell ⟨g, l.length, none⟩ (.int .i64 m)).heap[g]? = some (.cells (tw l m y) t (0, 0)) ∧ (w.setCell ⟨g, l.length + 1, none⟩ (.int .i64 m)).heap[g]? = some (.cells (tw l x m) t (0, 0)) := by
  constructor <;> simp [World.setCell, Array.getElem?_modify, h, tw, List.set_append_right]
theorem Tryz.sizeint : (Tryz.prog.info? 3).map (·.size) = some 1 := by kernel_rfl
theorem slice_roomint (w : World) (g n cap i : Nat) (hi : i ≤ cap) : (Instr.slice 27 (.slice (some ⟨g, 0, none⟩) n cap) none (some (.int .i64 (i : Int))) none).run Tryz.prog w = .ok (.slice (some ⟨g, 0, none⟩) i cap) w := by
  have ht : Tryz.prog.underlying 27 = some (.slice (Tryz.prog.elem 27)) := by kernel_rfl
  have he : Tryz.prog.elem 27 = 3 := by kernel_rfl
  have hs : (Go.sizeOf 3).run Tryz.prog w = .ok 1 w := by kernel_rfl
  rw [run_slice_h (P := Tryz.prog) w 27 (some ⟨g, 0, none⟩) n cap ht .i64 i (by omega) (by omega), he, hs]
  simp [Result.andThen, sliced, Addr.add]
theorem markint_any (n : Nat) (w : World) (h : (n : Int) ≤ 1125899906842624) :
    Calls Tryz.prog 196 #[.int .i64 (n : Int)] w fun e w' => e = .returned (.int .i64 (mkI n)) ∧ w' = w := by
  unfold mkI
  go_enter Tryz.func196, Tryz.ntmps196
  go_wp2
  go_ret
  exact ⟨ret_i (by omega), rfl⟩
theorem isint_any (n : Nat) (w : World) (h : (n : Int) ≤ 1125899906842624) :
    Calls Tryz.prog 228 #[.int .i64 (mkI n), .int .i64 (n : Int)] w fun e w' => e = .returned (.bool true) ∧ w' = w := by
  have K := markint_any n w h
  generalize mkI n = m at *
  clear h
  go_enter Tryz.func228, Tryz.ntmps228
  go_wp2_with fail
  refine K.mono ?_
  rintro e w ⟨rfl, rfl⟩
  go_wp2
  go_ret
  exact ⟨ret_bool (by simp), rfl⟩
def Twint (w : World) (g : Nat) (l : List Int) : Prop := w.heap[g]? = some (.cells (tw l (mkI l.length) (mkI (l.length + 1))) 3 (0, 0))
theorem copyint (w : World) (v : Value) (l : List Int) (hv : Nums w v l) (hl : l.length ≤ 1048576) : ∃ wc, (∀ ty, (Builtin.copy_ #[27, 27] ty #[.slice (some ⟨w.heap.size, 0, none⟩) l.length (l.length + 2), v]).run Tryz.prog (w.alloc (.cells (madeCells (Value.int .i64 0).cells (l.length + 2)) 3)) = .ok (goInt l.length) wc) ∧
    wc.heap[w.heap.size]? = some (.cells (tw l 0 0) 3 (0, 0)) ∧ Below w.heap.size w wc ∧ w.heap.size < wc.heap.size := by
  obtain ⟨a, cap, rfl, hc⟩ := nums_parts hv
  obtain ⟨cur, hcur⟩ : ∃ cur, cur = madeCells (Value.int .i64 0).cells (l.length + 2) := ⟨_, rfl⟩
  have hcs : cur.toList = List.replicate (l.length + 2) (.int .i64 0) := by
    apply List.ext_getElem?
    intro i
    rw [hcur]
    rcases Nat.lt_or_ge i (l.length + 2) with q | q
    · have := made_zero (l.length + 2) i q
      rw [Nat.mul_one] at this
      rw [this, List.getElem?_replicate, if_pos q]
    · rw [List.getElem?_eq_none (by simp [madeCells]; exact q), List.getElem?_eq_none (by simpa using q)]
  rw [← hcur]
  have hG := heap_alloc_new w (.cells cur 3)
  have hb := bwA w (.cells cur 3)
  rcases hc with hc | ⟨g, o, rfl, hc⟩
  · subst hc
    refine ⟨w.alloc (.cells cur 3), fun ty => ?_, ?_, hb, by simp⟩
    · exact run_copy_none _ _ _ _ 3 _ _ _ _ _ _ Tryz.underlying27 Tryz.sizeint (by simp)
    · rw [hG]
      have : cur = tw [] 0 0 := by apply Array.toList_inj.1; rw [hcs]; rfl
      rw [this]
  · have hr := fun ty => run_copy_row (P := Tryz.prog) (w.alloc (.cells cur 3)) 27 27 ty 3 w.heap.size 0 l.length (l.length + 2) ⟨g, o, none⟩ l.length cap cur 3 (l.map fun z => .int .i64 z) Tryz.underlying27 Tryz.sizeint hG (by simp) (fun j u hj => by
        rw [List.getElem?_map] at hj
        cases hz : l[j]? with
        | none => rw [hz] at hj; cases hj
        | some z =>
          rw [hz] at hj
          simp only [Option.map_some, Option.some.injEq] at hj
          subst hj
          have c := hc j z hz
          have e : (⟨g, o, none⟩ : Addr).add j = ⟨g, o + j, none⟩ := by cases j <;> simp [Addr.add]
          rw [e, World.cell?_of_block (w := w) (hb.block _ (lt_of_cell (a := ⟨g, o + j, none⟩) c))]
          exact c) (by have : cur.toList.length = l.length + 2 := by rw [hcs]; simp
                       simp at this ⊢; omega) (fun u hu => by obtain ⟨z, _, rfl⟩ := List.mem_map.1 hu; rfl)
    refine ⟨(w.alloc (.cells cur 3)).setRow w.heap.size ((l.map fun z => Value.int .i64 z) ++ cur.toList.drop l.length).toArray, fun ty => by rw [hr ty]; simp, ?_, ?_, ?_⟩
    · rw [setRow_heap _ _ cur _ 3 _ hG]
      congr 2
      apply Array.toList_inj.1
      simp [hcs, tw]
    · refine ⟨hb.os, hb.tape, hb.output, ?_, fun k hk => ?_⟩
      · simp
      · rw [setRow_other _ _ _ _ (by omega)]; exact hb.block k hk
    · simp
set_option maxRecDepth 100000 in
set_option maxHeartbeats 4000000 in
theorem twinint_any (w : World) (v : Value) (l : List Int) (hv : Nums w v l) (hl : l.length ≤ 1048576) :
    Calls Tryz.prog 162 #[v] w fun e w' => e = .returned (.slice (some ⟨w.heap.size, 0, none⟩) l.length (l.length + 2)) ∧ Twint w' w.heap.size l ∧ Below w.heap.size w w' := by
  obtain ⟨wc, hcp, hcell, hbel, hsz⟩ := copyint w v l hv hl
  obtain ⟨a, cap, rfl, _⟩ := nums_parts hv
  obtain ⟨i0, hi, hz0, hz1, hz2⟩ := info_parts Tryz.infoInt
  have hmk := run_makeSlice (P := Tryz.prog) w 27 3 i0 (.int .i64 0) Tryz.underlying27 hi hz0 .i64 .i64 (l.length : Int) ((l.length : Int) + 2) (by omega) (by omega) (by rw [hz1]; omega) (by rw [hz2]; omega) (by omega)
  rw [hz1] at hmk
  have e1 : ((l.length : Int) + 2).toNat * 1 = l.length + 2 := by omega
  have e2 : ((l.length : Int) + 2).toNat = l.length + 2 := by omega
  rw [e1, e2, Int.toNat_natCast] at hmk
  obtain ⟨N, hN⟩ : ∃ N, N = l.length := ⟨_, rfl⟩
  have hsl : ∀ W, (Instr.slice 27 (.slice (some ⟨w.heap.size, 0, none⟩) N (N + 2)) none (some (.int .i64 ((N : Int) + 2))) none).run Tryz.prog W = .ok (.slice (some ⟨w.heap.size, 0, none⟩) (N + 2) (N + 2)) W := fun W => by
    have := slice_roomint W w.heap.size N (N + 2) (N + 2) (Nat.le_refl _)
    exact this
  rw [← hN] at hmk hcp ⊢
  have hNb : (N : Int) ≤ 1048576 := by omega
  have HC : Hid (wc.heap[w.heap.size]? = some (.cells (tw l 0 0) 3 (0, 0)) ∧ Below w.heap.size w wc) := ⟨hcell, hbel⟩
  have HN := hide hN
  generalize madeCells (Value.int .i64 0).cells (N + 2) = mc at hmk hcp
  clear e1 e2 hcell hbel hi hz0 hz1 hz2 hl hN hsz
  go_enter Tryz.func162, Tryz.ntmps162
  go_wp2_with fail
  go_loopw [5] (fun iv wr => ∃ k : Nat, k ≤ 2 ∧ iv = .int .i64 ((N : Int) + (k : Int)) ∧ Hid (wr.heap[w.heap.size]? = some (.cells (tw l (if 1 ≤ k then mkI N else 0) (if 2 ≤ k then mkI (N + 1) else 0)) 3 (0, 0)) ∧ Below w.heap.size w wr)) (fun iv _ => (N + 2 - intOf iv).toNat)
  case atStart => exact ⟨0, by omega, by go_num, HC⟩
  case round =>
    clear HC
    obtain ⟨k, hk, rfl, HR⟩ := hrel
    obtain ⟨hcl, hb⟩ := unhide HR
    match k, hk with
    | 0, _ =>
      have hc1 := (tw_cell (t := 3) hcl).1
      have hs := tw_set (t := 3) hcl (mkI N)
      rw [← unhide HN] at hc1 hs
      have hf : wr.frozen? ⟨w.heap.size, N, none⟩ = false := by simp [World.frozen?, hcl]
      have K := markint_any N wr (by omega)
      have HR2 : Hid ((wr.setCell ⟨w.heap.size, N, none⟩ (.int .i64 (mkI N))).heap[w.heap.size]? = some (.cells (tw l (if 1 ≤ 1 then mkI N else 0) (if 2 ≤ 1 then mkI (N + 1) else 0)) 3 (0, 0)) ∧ Below w.heap.size w (wr.setCell ⟨w.heap.size, N, none⟩ (.int .i64 (mkI N)))) := ⟨hs.1, hb.setCell (by simp) _⟩
      clear hcl hb hs HR
      generalize mkI N = m0 at *
      go_wp2_with fail
      refine K.mono ?_
      rintro e w2 ⟨rfl, rfl⟩
      go_wp2_with fail
      go_roundw
      case rel => exact ⟨1, by omega, by go_num, HR2⟩
      case measure => simp only [intOf]; omega
    | 1, _ =>
      have hc1 := (tw_cell (t := 3) hcl).2
      have hs := tw_set (t := 3) hcl (mkI (N + 1))
      rw [← unhide HN] at hc1 hs
      have hf : wr.frozen? ⟨w.heap.size, N + 1, none⟩ = false := by simp [World.frozen?, hcl]
      have K := markint_any (N + 1) wr (by omega)
      have HR2 : Hid ((wr.setCell ⟨w.heap.size, N + 1, none⟩ (.int .i64 (mkI (N + 1)))).heap[w.heap.size]? = some (.cells (tw l (if 1 ≤ 2 then mkI N else 0) (if 2 ≤ 2 then mkI (N + 1) else 0)) 3 (0, 0)) ∧ Below w.heap.size w (wr.setCell ⟨w.heap.size, N + 1, none⟩ (.int .i64 (mkI (N + 1))))) := ⟨hs.2, hb.setCell (by simp) _⟩
      clear hcl hb hs HR
      generalize mkI (N + 1) = m1 at *
      have K' : Calls Tryz.prog 196 #[.int .i64 ((N : Int) + 1)] wr fun e w' => e = .returned (.int .i64 m1) ∧ w' = wr := K
      clear K
      go_wp2_with fail
      refine K'.mono ?_
      rintro e w2 ⟨rfl, rfl⟩
      go_wp2_with fail
      go_roundw
      case rel => exact ⟨2, by omega, by go_num, HR2⟩
      case measure => simp only [intOf]; omega
    | 2, _ =>
      clear hcl hb
      go_wp2_with fail
      go_ret
      refine ⟨rfl, ?_, (unhide HR).2⟩
      have := (unhide HR).1
      unfold Twint
      rw [← unhide HN]
      exact this
    | k + 3, h => exact absurd h (by omega)
theorem Twint.ints {B : Nat} {w : World} {g : Nat} {l : List Int} (h : Twint w g l) (hl : l.length ≤ 1048576) (hB : B ≤ g) : Ints B w (.slice (some ⟨g, 0, none⟩) l.length (l.length + 2)) l := by
  refine ⟨by simp, Or.inr ⟨g, l.length + 2, _, rfl, hB, h, by omega, by unfold maxLen; omega, by simp [tw], ?_⟩⟩
  simp [tw, I64]
set_option maxRecDepth 100000 in
set_option maxHeartbeats 4000000 in
theorem leftint_any (w : World) (g : Nat) (v : Value) (l : List Int) (ht : Twint w g l) (hv : Nums w v l) (hl : l.length ≤ 1048576) :
    Calls Tryz.prog 173 #[.slice (some ⟨g, 0, none⟩) l.length (l.length + 2), v] w fun e w' => e = .returned (.bool true) ∧ Below w.heap.size w w' := by
  have hn := (ht.ints (B := 0) hl (Nat.zero_le _)).nums
  have KS := same_any _ _ l l w hn hv
  rw [decide_eq_true rfl] at KS
  obtain ⟨a, cap, rfl, _⟩ := nums_parts hv
  obtain ⟨N, hN⟩ : ∃ N, N = l.length := ⟨_, rfl⟩
  have hsl : ∀ W, (Instr.slice 27 (.slice (some ⟨g, 0, none⟩) N (N + 2)) none (some (.int .i64 ((N : Int) + 2))) none).run Tryz.prog W = .ok (.slice (some ⟨g, 0, none⟩) (N + 2) (N + 2)) W := fun W => by
    have := slice_roomint W g N (N + 2) (N + 2) (Nat.le_refl _)
    exact this
  have hc := tw_cell (t := 3) ht
  rw [← hN] at hc KS ⊢
  obtain ⟨hc1, hc2⟩ := hc
  have hNb : (N : Int) ≤ 1048576 := by omega
  have K0 := isint_any N w (by omega)
  have K1 : Calls Tryz.prog 228 #[.int .i64 (mkI (N + 1)), .int .i64 ((N : Int) + 1)] w fun e w' => e = .returned (.bool true) ∧ w' = w := isint_any (N + 1) w (by omega)
  clear hn ht hN hl
  generalize mkI N = m0 at *
  generalize mkI (N + 1) = m1 at *
  go_enter Tryz.func173, Tryz.ntmps173
  go_wp2_with fail
  go_loopw [6] (fun iv wr => ∃ k : Nat, k ≤ 2 ∧ iv = .int .i64 ((N : Int) + (k : Int)) ∧ wr = w) (fun iv _ => (N + 2 - intOf iv).toNat)
  case atStart => exact ⟨0, by omega, by go_num, rfl⟩
  case round =>
    obtain ⟨k, hk, rfl, hwr⟩ := hrel
    obtain rfl : w = wr := hwr.symm
    match k, hk with
    | 0, _ =>
      go_wp2_with fail
      refine K0.mono ?_
      rintro e w2 ⟨rfl, rfl⟩
      go_wp2_with fail
      go_roundw
      case rel => exact ⟨1, by omega, by go_num, trivial⟩
      case measure => simp only [intOf]; omega
    | 1, _ =>
      go_wp2_with fail
      refine K1.mono ?_
      rintro e w2 ⟨rfl, rfl⟩
      go_wp2_with fail
      go_roundw
      case rel => exact ⟨2, by omega, by go_num, trivial⟩
      case measure => simp only [intOf]; omega
    | 2, _ =>
      go_wp2_with fail
      refine KS.mono ?_
      rintro e w2 ⟨rfl, hb2⟩
      go_wp2_with fail
      go_ret
      exact ⟨rfl, hb2⟩
    | k + 3, h => exact absurd h (by omega)
end Go.Proofs.YtnfhbmlmemifjaaGreatDoor
