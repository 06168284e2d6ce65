/- Texts joined: TtA TtB TtC. -/
import Derived.Test.YtpgppnmobbgefaaGreatDoorTrA
import Derived.Test.YtpgppnmobbgefaaGreatDoorBaQ
import Derived.Laws.Tables
import Derived.Laws.CopyRow
import Derived.Laws.IdiomCopy
import Derived.Test.YtpgppnmobbgefaaGreatDoorBbM
/- Copies of lists of numbers with marks behind them: TwinNumbers and LeftNumbers of phratrylaw01, behind layer 8. -/
namespace Go.Proofs.YtpgppnmobbgefaaGreatDoor
open Go.RowKit Go.Maps

theorem ret_i {k : IntKind} {a b : Int} (h : a = b) : Ending.returned (.int k a) = .returned (.int k b) := by rw [h]
theorem ret_bool {a b : Bool} (h : a = b) : Ending.returned (.bool a) = .returned (.bool b) := by rw [h]
theorem made_zero (n k : Nat) (h : k < n) : (madeCells (Value.int .i64 0).cells (n * 1)).toList[k]? = some (.int .i64 0) := by
  simp [madeCells, Value.cells, h, Nat.mod_one]
theorem frozen_of_blk0 {w : World} {b : Nat} {cs : Array Value} {t : TypeId} (h : w.heap[b]? = some (.cells cs t (0, 0))) (o : Nat) : w.frozen? ⟨b, o, none⟩ = false := by simp [World.frozen?, h]
theorem nums_parts {w : World} {v : Value} {l : List Int} (h : Nums w v l) : ∃ a cap, v = .slice a l.length cap ∧ (l = [] ∨ ∃ g o, a = some ⟨g, o, none⟩ ∧ ∀ i z, l[i]? = some z → w.cell? ⟨g, o + i, none⟩ = some (.int .i64 z)) := by
  rcases h with ⟨rfl, a, c, rfl, _⟩ | ⟨g, o, cap, rfl, _, _, hc⟩
  · exact ⟨a, c, rfl, Or.inl rfl⟩
  · exact ⟨_, cap, rfl, Or.inr ⟨g, o, rfl, hc⟩⟩
def mkI (n : Nat) : Int := -1000 - (n : Int)
def tw (l : List Int) (x y : Int) : Array Value := ((l.map fun z => Value.int .i64 z) ++ [Value.int .i64 x, Value.int .i64 y]).toArray
theorem tw_cell {w : World} {g : Nat} {l : List Int} {x y : Int} {t : TypeId} (h : w.heap[g]? = some (.cells (tw l x y) t (0, 0))) : w.cell? ⟨g, l.length, none⟩ = some (.int .i64 x) ∧ w.cell? ⟨g, l.length + 1, none⟩ = some (.int .i64 y) := by
  simp [World.cell?, h, tw]
theorem tw_set {w : World} {g : Nat} {l : List Int} {x y : Int} {t : TypeId} (h : w.heap[g]? = some (.cells (tw l x y) t (0, 0))) (m : Int) : (w.setCell ⟨g, l.length, none⟩ (.int .i64 m)).heap[g]? = some (.cells (tw l m y) t (0, 0)) ∧ (w.setCell ⟨g, l.length + 1, none⟩ (.int .i64 m)).heap[g]? = some (.cells (tw l x m) t (0, 0)) := by
  constructor <;> simp [World.setCell, Array.getElem?_modify, h, tw, List.set_append_right]

theorem Tryz.sizeint : (Tryz.prog.info? 3).map (·.size) = some 1 := by kernel_rfl
theorem slice_roomint (w : World) (g n cap i : Nat) (hi : i ≤ cap) : (Instr.slice 31 (.slice (some ⟨g, 0, none⟩) n cap) none (some (.int .i64 (i : Int))) none).run Tryz.prog w = .ok (.slice (some ⟨g, 0, none⟩) i cap) w := by
  have ht : Tryz.prog.underlying 31 = some (.slice (Tryz.prog.elem 31)) := by kernel_rfl
  have he : Tryz.prog.elem 31 = 3 := by kernel_rfl
  have hs : (Go.sizeOf 3).run Tryz.prog w = .ok 1 w := by kernel_rfl
  rw [run_slice_h (P := Tryz.prog) w 31 (some ⟨g, 0, none⟩) n cap ht .i64 i (by omega) (by omega), he, hs]
  simp [Result.andThen, sliced, Addr.add]
theorem markint_any (n : Nat) (w : World) (h : (n : Int) ≤ 1125899906842624) :
    Calls Tryz.prog 178 #[.int .i64 (n : Int)] w fun e w' => e = .returned (.int .i64 (mkI n)) ∧ w' = w := by
  unfold mkI
  go_enter Tryz.func178, Tryz.ntmps178
  go_wp2
  go_ret
  exact ⟨ret_i (by omega), rfl⟩
theorem isint_any (n : Nat) (w : World) (h : (n : Int) ≤ 1125899906842624) :
    Calls Tryz.prog 181 #[.int .i64 (mkI n), .int .i64 (n : Int)] w fun e w' => e = .returned (.bool true) ∧ w' = w := by
  have K := markint_any n w h
  generalize mkI n = m at *
  clear h
  go_enter Tryz.func181, Tryz.ntmps181
  go_wp2_with fail
  refine K.mono ?_
  rintro e w ⟨rfl, rfl⟩
  go_wp2
  go_ret
  exact ⟨ret_bool (by simp), rfl⟩

/-- A copy with its marks behind it. -/
def Twint (w : World) (g : Nat) (l : List Int) : Prop := w.heap[g]? = some (.cells (tw l (mkI l.length) (mkI (l.length + 1))) 3 (0, 0))
theorem copyint (w : World) (v : Value) (l : List Int) (hv : Nums w v l) (hl : l.length ≤ 1048576) : ∃ wc, (∀ ty, (Builtin.copy_ #[31, 31] ty #[.slice (some ⟨w.heap.size, 0, none⟩) l.length (l.length + 2), v]).run Tryz.prog (w.alloc (.cells (madeCells (Value.int .i64 0).cells (l.length + 2)) 3)) = .ok (goInt l.length) wc) ∧
    wc.heap[w.heap.size]? = some (.cells (tw l 0 0) 3 (0, 0)) ∧ Below w.heap.size w wc ∧ w.heap.size < wc.heap.size := by
  obtain ⟨a, cap, rfl, hc⟩ := nums_parts hv
  obtain ⟨cur, hcur⟩ : ∃ cur, cur = madeCells (Value.int .i64 0).cells (l.length + 2) := ⟨_, rfl⟩
  have hcs : cur.toList = List.replicate (l.length + 2) (.int .i64 0) := by
    apply List.ext_getElem?
    intro i
    rw [hcur]
    rcases Nat.lt_or_ge i (l.length + 2) with q | q
    · have := made_zero (l.length + 2) i q
      rw [Nat.mul_one] at this
      rw [this, List.getElem?_replicate, if_pos q]
    · rw [List.getElem?_eq_none (by simp [madeCells]; exact q), List.getElem?_eq_none (by simpa using q)]
  rw [← hcur]
  have hG := heap_alloc_new w (.cells cur 3)
  have hb := bwA w (.cells cur 3)
  rcases hc with hc | ⟨g, o, rfl, hc⟩
  · subst hc
    refine ⟨w.alloc (.cells cur 3), fun ty => ?_, ?_, hb, by simp⟩
    · exact run_copy_none _ _ _ _ 3 _ _ _ _ _ _ Tryz.underlying31 Tryz.sizeint (by simp)
    · rw [hG]
      have : cur = tw [] 0 0 := by apply Array.toList_inj.1; rw [hcs]; rfl
      rw [this]
  · have hr := fun ty => run_copy_row (P := Tryz.prog) (w.alloc (.cells cur 3)) 31 31 ty 3 w.heap.size 0 l.length (l.length + 2) ⟨g, o, none⟩ l.length cap cur 3 (l.map fun z => .int .i64 z) Tryz.underlying31 Tryz.sizeint hG (by simp) (fun j u hj => by
        rw [List.getElem?_map] at hj
        cases hz : l[j]? with
        | none => rw [hz] at hj; cases hj
        | some z =>
          rw [hz] at hj
          simp only [Option.map_some, Option.some.injEq] at hj
          subst hj
          have c := hc j z hz
          have e : (⟨g, o, none⟩ : Addr).add j = ⟨g, o + j, none⟩ := by cases j <;> simp [Addr.add]
          rw [e, World.cell?_of_block (w := w) (hb.block _ (lt_of_cell (a := ⟨g, o + j, none⟩) c))]
          exact c) (by have : cur.toList.length = l.length + 2 := by rw [hcs]; simp
                       simp at this ⊢; omega) (fun u hu => by obtain ⟨z, _, rfl⟩ := List.mem_map.1 hu; rfl)
    refine ⟨(w.alloc (.cells cur 3)).setRow w.heap.size ((l.map fun z => Value.int .i64 z) ++ cur.toList.drop l.length).toArray, fun ty => by rw [hr ty]; simp, ?_, ?_, ?_⟩
    · rw [setRow_heap _ _ cur _ 3 _ hG]
      congr 2
      apply Array.toList_inj.1
      simp [hcs, tw]
    · refine ⟨hb.os, hb.tape, hb.output, ?_, fun k hk => ?_⟩
      · simp
      · rw [setRow_other _ _ _ _ (by omega)]; exact hb.block k hk
    · simp

set_option maxRecDepth 100000 in
set_option maxHeartbeats 4000000 in
theorem twinint_any (w : World) (v : Value) (l : List Int) (hv : Nums w v l) (hl : l.length ≤ 1048576) :
    Calls Tryz.prog 39 #[v] w fun e w' => e = .returned (.slice (some ⟨w.heap.size, 0, none⟩) l.length (l.length + 2)) ∧ Twint w' w.heap.size l ∧ Below w.heap.size w w' := by
  obtain ⟨wc, hcp, hcell, hbel, hsz⟩ := copyint w v l hv hl
  obtain ⟨a, cap, rfl, _⟩ := nums_parts hv
  obtain ⟨i0, hi, hz0, hz1, hz2⟩ := info_parts Tryz.infoInt
  have hmk := run_makeSlice (P := Tryz.prog) w 31 3 i0 (.int .i64 0) Tryz.underlying31 hi hz0 .i64 .i64 (l.length : Int) ((l.length : Int) + 2) (by omega) (by omega) (by rw [hz1]; omega) (by rw [hz2]; omega) (by omega)
  rw [hz1] at hmk
  have e1 : ((l.length : Int) + 2).toNat * 1 = l.length + 2 := by omega
  have e2 : ((l.length : Int) + 2).toNat = l.length + 2 := by omega
  rw [e1, e2, Int.toNat_natCast] at hmk
  obtain ⟨N, hN⟩ : ∃ N, N = l.length := ⟨_, rfl⟩
  have hsl : ∀ W, (Instr.slice 31 (.slice (some ⟨w.heap.size, 0, none⟩) N (N + 2)) none (some (.int .i64 ((N : Int) + 2))) none).run Tryz.prog W = .ok (.slice (some ⟨w.heap.size, 0, none⟩) (N + 2) (N + 2)) W := fun W => by
    have := slice_roomint W w.heap.size N (N + 2) (N + 2) (Nat.le_refl _)
    exact this
  rw [← hN] at hmk hcp ⊢
  have hNb : (N : Int) ≤ 1048576 := by omega
  have HC : Hid (wc.heap[w.heap.size]? = some (.cells (tw l 0 0) 3 (0, 0)) ∧ Below w.heap.size w wc) := ⟨hcell, hbel⟩
  have HN := hide hN
  generalize madeCells (Value.int .i64 0).cells (N + 2) = mc at hmk hcp
  clear e1 e2 hcell hbel hi hz0 hz1 hz2 hl hN hsz
  go_enter Tryz.func39, Tryz.ntmps39
  go_wp2_with fail
  go_loopw [5] (fun iv wr => ∃ k : Nat, k ≤ 2 ∧ iv = .int .i64 ((N : Int) + (k : Int)) ∧ Hid (wr.heap[w.heap.size]? = some (.cells (tw l (if 1 ≤ k then mkI N else 0) (if 2 ≤ k then mkI (N + 1) else 0)) 3 (0, 0)) ∧ Below w.heap.size w wr)) (fun iv _ => (N + 2 - intOf iv).toNat)
  case atStart => exact ⟨0, by omega, by go_num, HC⟩
  case round =>
    clear HC
    obtain ⟨k, hk, rfl, HR⟩ := hrel
    obtain ⟨hcl, hb⟩ := unhide HR
    match k, hk with
    | 0, _ =>
      have hc1 := (tw_cell (t := 3) hcl).1
      have hs := tw_set (t := 3) hcl (mkI N)
      rw [← unhide HN] at hc1 hs
      have hf : wr.frozen? ⟨w.heap.size, N, none⟩ = false := by simp [World.frozen?, hcl]
      have K := markint_any N wr (by omega)
      have HR2 : Hid ((wr.setCell ⟨w.heap.size, N, none⟩ (.int .i64 (mkI N))).heap[w.heap.size]? = some (.cells (tw l (if 1 ≤ 1 then mkI N else 0) (if 2 ≤ 1 then mkI (N + 1) else 0)) 3 (0, 0)) ∧ Below w.heap.size w (wr.setCell ⟨w.heap.size, N, none⟩ (.int .i64 (mkI N)))) := ⟨hs.1, hb.setCell (by simp) _⟩
      clear hcl hb hs HR
      generalize mkI N = m0 at *
      go_wp2_with fail
      refine K.mono ?_
      rintro e w2 ⟨rfl, rfl⟩
      go_wp2_with fail
      go_roundw
      case rel => exact ⟨1, by omega, by go_num, HR2⟩
      case measure => simp only [intOf]; omega
    | 1, _ =>
      have hc1 := (tw_cell (t := 3) hcl).2
      have hs := tw_set (t := 3) hcl (mkI (N + 1))
      rw [← unhide HN] at hc1 hs
      have hf : wr.frozen? ⟨w.heap.size, N + 1, none⟩ = false := by simp [World.frozen?, hcl]
      have K := markint_any (N + 1) wr (by omega)
      have HR2 : Hid ((wr.setCell ⟨w.heap.size, N + 1, none⟩ (.int .i64 (mkI (N + 1)))).heap[w.heap.size]? = some (.cells (tw l (if 1 ≤ 2 then mkI N else 0) (if 2 ≤ 2 then mkI (N + 1) else 0)) 3 (0, 0)) ∧ Below w.heap.size w (wr.setCell ⟨w.heap.size, N + 1, none⟩ (.int .i64 (mkI (N + 1))))) := ⟨hs.2, hb.setCell (by simp) _⟩
      clear hcl hb hs HR
      generalize mkI (N + 1) = m1 at *
      have K' : Calls Tryz.prog 178 #[.int .i64 ((N : Int) + 1)] wr fun e w' => e = .returned (.int .i64 m1) ∧ w' = wr := K
      clear K
      go_wp2_with fail
      refine K'.mono ?_
      rintro e w2 ⟨rfl, rfl⟩
      go_wp2_with fail
      go_roundw
      case rel => exact ⟨2, by omega, by go_num, HR2⟩
      case measure => simp only [intOf]; omega
    | 2, _ =>
      clear hcl hb
      go_wp2_with fail
      go_ret
      refine ⟨rfl, ?_, (unhide HR).2⟩
      have := (unhide HR).1
      unfold Twint
      rw [← unhide HN]
      exact this
    | k + 3, h => exact absurd h (by omega)

theorem Twint.ints {B : Nat} {w : World} {g : Nat} {l : List Int} (h : Twint w g l) (hl : l.length ≤ 1048576) (hB : B ≤ g) : Ints B w (.slice (some ⟨g, 0, none⟩) l.length (l.length + 2)) l := by
  refine ⟨by simp, Or.inr ⟨g, l.length + 2, _, rfl, hB, h, by omega, by unfold maxLen; omega, by simp [tw], ?_⟩⟩
  simp [tw, I64]
set_option maxRecDepth 100000 in
set_option maxHeartbeats 4000000 in
theorem leftint_any (w : World) (g : Nat) (v : Value) (l : List Int) (ht : Twint w g l) (hv : Nums w v l) (hl : l.length ≤ 1048576) :
    Calls Tryz.prog 42 #[.slice (some ⟨g, 0, none⟩) l.length (l.length + 2), v] w fun e w' => e = .returned (.bool true) ∧ Below w.heap.size w w' := by
  have hn := (ht.ints (B := 0) hl (Nat.zero_le _)).nums
  have KS := same_any _ _ l l w hn hv
  rw [decide_eq_true rfl] at KS
  obtain ⟨a, cap, rfl, _⟩ := nums_parts hv
  obtain ⟨N, hN⟩ : ∃ N, N = l.length := ⟨_, rfl⟩
  have hsl : ∀ W, (Instr.slice 31 (.slice (some ⟨g, 0, none⟩) N (N + 2)) none (some (.int .i64 ((N : Int) + 2))) none).run Tryz.prog W = .ok (.slice (some ⟨g, 0, none⟩) (N + 2) (N + 2)) W := fun W => by
    have := slice_roomint W g N (N + 2) (N + 2) (Nat.le_refl _)
    exact this
  have hc := tw_cell (t := 3) ht
  rw [← hN] at hc KS ⊢
  obtain ⟨hc1, hc2⟩ := hc
  have hNb : (N : Int) ≤ 1048576 := by omega
  have K0 := isint_any N w (by omega)
  have K1 : Calls Tryz.prog 181 #[.int .i64 (mkI (N + 1)), .int .i64 ((N : Int) + 1)] w fun e w' => e = .returned (.bool true) ∧ w' = w := isint_any (N + 1) w (by omega)
  clear hn ht hN hl
  generalize mkI N = m0 at *
  generalize mkI (N + 1) = m1 at *
  go_enter Tryz.func42, Tryz.ntmps42
  go_wp2_with fail
  go_loopw [6] (fun iv wr => ∃ k : Nat, k ≤ 2 ∧ iv = .int .i64 ((N : Int) + (k : Int)) ∧ wr = w) (fun iv _ => (N + 2 - intOf iv).toNat)
  case atStart => exact ⟨0, by omega, by go_num, rfl⟩
  case round =>
    obtain ⟨k, hk, rfl, hwr⟩ := hrel
    obtain rfl : w = wr := hwr.symm
    match k, hk with
    | 0, _ =>
      go_wp2_with fail
      refine K0.mono ?_
      rintro e w2 ⟨rfl, rfl⟩
      go_wp2_with fail
      go_roundw
      case rel => exact ⟨1, by omega, by go_num, trivial⟩
      case measure => simp only [intOf]; omega
    | 1, _ =>
      go_wp2_with fail
      refine K1.mono ?_
      rintro e w2 ⟨rfl, rfl⟩
      go_wp2_with fail
      go_roundw
      case rel => exact ⟨2, by omega, by go_num, trivial⟩
      case measure => simp only [intOf]; omega
    | 2, _ =>
      go_wp2_with fail
      refine KS.mono ?_
      rintro e w2 ⟨rfl, hb2⟩
      go_wp2_with fail
      go_ret
      exact ⟨rfl, hb2⟩
    | k + 3, h => exact absurd h (by omega)

end Go.Proofs.YtpgppnmobbgefaaGreatDoor

/- Copies of rows of nodes with marks behind them: what they are in memory. TwinNode, markNode. -/
namespace Go.Proofs.YtpgppnmobbgefaaGreatDoor
open Go.RowKit Go.Maps

theorem made_nodes (m : Nat) : (madeCells (Value.agg #[.int .i64 0, .int .i64 0, .int .i64 0, .slice none 0 0]).cells (m * 4)).toList = treeC (List.replicate m nd0) (List.replicate m (.slice none 0 0)) := by
  apply List.ext_getElem?
  intro i
  rcases Nat.lt_or_ge i (m * 4) with h | h
  · obtain ⟨q, r, hr, rfl⟩ : ∃ q r, r < 4 ∧ i = q * 4 + r := ⟨i / 4, i % 4, by omega, by omega⟩
    have hq : q < m := by omega
    have e : (madeCells (Value.agg #[.int .i64 0, .int .i64 0, .int .i64 0, .slice none 0 0]).cells (m * 4)).toList[q * 4 + r]? = some ((#[.int .i64 0, .int .i64 0, .int .i64 0, .slice none 0 0] : Array Value)[r]!) := by
      have e2 : (q * 4 + r) % 4 = r := by omega
      simp [madeCells, Value.cells, h, e2]
    rw [e]
    symm
    refine treeC_get (n := nd0) (u := .slice none 0 0) (by simp [hq]) (by simp [hq]) ?_
    match r, hr with
    | 0, _ => rfl
    | 1, _ => rfl
    | 2, _ => rfl
    | 3, _ => rfl
  · rw [List.getElem?_eq_none (by simp [madeCells]; exact h), List.getElem?_eq_none (by rw [treeC_len (by simp)]; simpa using h)]
/-- A mark among nodes. -/
def mkN (n : Nat) : Nd := ⟨mkI n, 0, 0, []⟩
set_option maxRecDepth 100000 in
set_option maxHeartbeats 2000000 in
theorem twinNode_any (w : World) (p m e : Int) (u : Value) (l : List Int) (hu : Nums w u l) (hl : l.length ≤ 1048576) :
    Calls Tryz.prog 182 #[.agg #[.int .i64 p, .int .i64 m, .int .i64 e, u]] w fun x w' => ∃ g, x = .returned (.agg #[.int .i64 p, .int .i64 m, .int .i64 e, .slice (some ⟨g, 0, none⟩) l.length (l.length + 2)]) ∧ w.heap.size ≤ g ∧ Twint w' g l ∧ Below w.heap.size w w' := by
  obtain ⟨a, c, rfl⟩ := nums_slice hu
  obtain ⟨W0, hW0⟩ : ∃ W0, W0 = (w.alloc (.cells #[.int .i64 p, .int .i64 m, .int .i64 e, .slice a l.length c] 95)).alloc (.cells #[.int .i64 0, .int .i64 0, .int .i64 0, .slice none 0 0] 95) := ⟨_, rfl⟩
  have hb0 : Below w.heap.size w W0 := by rw [hW0]; exact (bwA _ _).alloc (by simp) _
  have hs0 : W0.heap.size = w.heap.size + 2 := by rw [hW0]; simp
  have HB : Hid (∀ W, Below W0.heap.size W0 W → W.heap[w.heap.size]? = some (.cells #[.int .i64 p, .int .i64 m, .int .i64 e, .slice a l.length c] 95 (0, 0)) ∧ W.heap[w.heap.size + 1]? = some (.cells #[.int .i64 0, .int .i64 0, .int .i64 0, .slice none 0 0] 95 (0, 0)) ∧ Below w.heap.size w W) := fun W hW => by
    refine ⟨?_, ?_, bw_tr hb0 hW⟩
    · rw [hW.block _ (by omega), hW0, Below.heap_alloc _ _ _ (by simp)]; exact heap_alloc_new _ _
    · rw [hW.block _ (by omega), hW0]
      have := heap_alloc_new (w.alloc (.cells #[.int .i64 p, .int .i64 m, .int .i64 e, .slice a l.length c] 95)) (.cells #[.int .i64 0, .int .i64 0, .int .i64 0, .slice none 0 0] 95)
      simpa using this
  have KT := hide (twinint_any W0 _ l (hu.bw hb0) hl)
  have HW : Hid (W0 = (w.alloc (.cells #[.int .i64 p, .int .i64 m, .int .i64 e, .slice a l.length c] 95)).alloc (.cells #[.int .i64 0, .int .i64 0, .int .i64 0, .slice none 0 0] 95)) := hW0
  have HS := hide hs0
  clear hW0 hu hl hb0 hs0
  obtain ⟨L, hL⟩ : ∃ L, L = l.length := ⟨_, rfl⟩
  rw [← hL] at KT HW HB ⊢
  have HL := hide hL
  clear hL
  go_enter Tryz.func182, Tryz.ntmps182
  go_wp2_with fail
  rw [← unhide HW]
  refine (unhide KT).mono ?_
  rintro x w1 ⟨rfl, ht, b1⟩
  obtain ⟨k1, k2, b2⟩ := unhide HB _ b1
  have c0 := cell_of_blk k1 (o := 0) rfl; have c1 := cell_of_blk k1 (o := 1) rfl; have c2 := cell_of_blk k1 (o := 2) rfl; have c3 := cell_of_blk k1 (o := 3) rfl
  have d0 := cell_of_blk k2 (o := 0) rfl; have d1 := cell_of_blk k2 (o := 1) rfl; have d2 := cell_of_blk k2 (o := 2) rfl; have d3 := cell_of_blk k2 (o := 3) rfl
  have f3 := frozen_of_blk0 k1 3
  have e0 := frozen_of_blk0 k2 0; have e1 := frozen_of_blk0 k2 1; have e2 := frozen_of_blk0 k2 2; have e3 := frozen_of_blk0 k2 3
  have hs := unhide HS
  obtain ⟨sl, hsl⟩ : ∃ sl, sl = Value.slice (some ⟨W0.heap.size, 0, none⟩) L (L + 2) := ⟨_, rfl⟩
  obtain ⟨WZ, hWZ⟩ : ∃ WZ, WZ = ((((w1.setCell ⟨w.heap.size, 3, none⟩ (.slice (some ⟨W0.heap.size, 0, none⟩) L (L + 2))).setCell ⟨w.heap.size + 1, 0, none⟩ (.int .i64 p)).setCell ⟨w.heap.size + 1, 1, none⟩ (.int .i64 m)).setCell ⟨w.heap.size + 1, 2, none⟩ (.int .i64 e)).setCell ⟨w.heap.size + 1, 3, none⟩ (.slice (some ⟨W0.heap.size, 0, none⟩) L (L + 2)) := ⟨_, rfl⟩
  have z : WZ.heap[w.heap.size + 1]? = some (.cells #[.int .i64 p, .int .i64 m, .int .i64 e, .slice (some ⟨W0.heap.size, 0, none⟩) L (L + 2)] 95 (0, 0)) := by
    rw [hWZ]; simp [World.setCell, Array.getElem?_modify, k2]
  have z0 := cell_of_blk z (o := 0) rfl; have z1 := cell_of_blk z (o := 1) rfl; have z2 := cell_of_blk z (o := 2) rfl; have z3 := cell_of_blk z (o := 3) rfl
  have HF : Hid (Twint WZ W0.heap.size l ∧ Below w.heap.size w WZ) := by
    refine ⟨?_, ?_⟩
    · unfold Twint at ht ⊢
      rw [← ht, hWZ]
      have n1 : ¬ w.heap.size + 1 = W0.heap.size := by omega
      have n2 : ¬ w.heap.size = W0.heap.size := by omega
      simp [World.setCell, Array.getElem?_modify, n1, n2]
    · rw [hWZ]; exact ((((b2.setCell (by simp) _).setCell (by simp) _).setCell (by simp) _).setCell (by simp) _).setCell (by simp) _
  have HZ := hide hWZ
  clear hWZ z ht b1 b2 k1 k2 hsl hs
  go_wp2_with fail
  rw [← unhide HZ]
  exact bodyPost_ret (v := .agg #[.int .i64 p, .int .i64 m, .int .i64 e, .slice (some ⟨W0.heap.size, 0, none⟩) L (L + 2)]) (by simp [results, Tryz.results182, go_sem, z0, z1, z2, z3]) rfl ⟨W0.heap.size, rfl, by have := unhide HS; omega, (unhide HF).1, (unhide HF).2⟩
set_option maxHeartbeats 2000000 in
theorem markNode_any (n : Nat) (w : World) (h : (n : Int) ≤ 1125899906842624) :
    Calls Tryz.prog 183 #[.int .i64 (n : Int)] w fun e w' => e = .returned (.agg #[.int .i64 (mkI n), .int .i64 0, .int .i64 0, .slice none 0 0]) ∧ Below w.heap.size w w' := by
  have hm : -1000 - (n : Int) = mkI n := rfl
  go_enter Tryz.func183, Tryz.ntmps183
  go_wp2_with fail
  have z := heap_alloc_new w (.cells #[.int .i64 (mkI n), .int .i64 0, .int .i64 0, .slice none 0 0] 95)
  have hb := bwA w (.cells #[.int .i64 (mkI n), .int .i64 0, .int .i64 0, .slice none 0 0] 95)
  generalize w.alloc (.cells #[.int .i64 (mkI n), .int .i64 0, .int .i64 0, .slice none 0 0] 95) = WZ at *
  have z0 := cell_of_blk z (o := 0) rfl; have z1 := cell_of_blk z (o := 1) rfl; have z2 := cell_of_blk z (o := 2) rfl; have z3 := cell_of_blk z (o := 3) rfl
  exact bodyPost_ret (v := .agg #[.int .i64 (mkI n), .int .i64 0, .int .i64 0, .slice none 0 0]) (by simp [results, Tryz.results183, go_sem, z0, z1, z2, z3]) rfl ⟨rfl, hb⟩
end Go.Proofs.YtpgppnmobbgefaaGreatDoor

/- TwinNodes and TwinTree: a copy of a tree, in memory of its own, with marks behind each list. -/
namespace Go.Proofs.YtpgppnmobbgefaaGreatDoor
open Go.RowKit Go.Maps

/-- While the copy is made: i nodes are done. -/
structure TwS (w W : World) (G : Nat) (T F : List Nd) (us : List Value) (i : Nat) : Prop where
  bel : Below w.heap.size w W
  low : w.heap.size ≤ G
  own : W.ownsRow w.heap.size 95 4 (.slice (some ⟨G, 0, none⟩) (T.length + 2) (T.length + 2)) (T.length + 2) (treeC F us)
  fl : F.length = T.length + 2
  ul : us.length = T.length + 2
  done : ∀ j, j < i → F[j]? = T[j]?
  zero : ∀ j, i ≤ j → j < T.length + 2 → F[j]? = some nd0 ∧ us[j]? = some (.slice none 0 0)
  un : ∀ j n u, j < i → T[j]? = some n → us[j]? = some u → ∃ g, u = .slice (some ⟨g, 0, none⟩) n.un.length (n.un.length + 2) ∧ G < g ∧ Twint W g n.un
  apart : ∀ (j j' : Nat) (u u' : Value) (k : Nat), j < i → j' < i → us[j]? = some u → us[j']? = some u' → u.ownBlock = some k → u'.ownBlock = some k → j = j'
theorem Twint.keep {w w' : World} {g : Nat} {l : List Int} (h : Twint w g l) (hb : w'.heap[g]? = w.heap[g]?) : Twint w' g l := by
  unfold Twint at *; rw [hb]; exact h
theorem Twint.lt {w : World} {g : Nat} {l : List Int} (h : Twint w g l) : g < w.heap.size := lt_of_blk h
theorem TwS.start {w : World} {T : List Nd} {cur : Array Value} (hl : T.length ≤ 1048576) (hc : cur.toList = treeC (List.replicate (T.length + 2) nd0) (List.replicate (T.length + 2) (.slice none 0 0))) :
    TwS w (w.alloc (.cells cur 95)) w.heap.size T (List.replicate (T.length + 2) nd0) (List.replicate (T.length + 2) (.slice none 0 0)) 0 := by
  refine ⟨bwA _ _, Nat.le_refl _, ?_, by simp, by simp, fun j h => by omega, fun j _ h => by simp [h], fun j n u h => by omega, fun j j' u u' k h => by omega⟩
  have hg := heap_alloc_new w (.cells cur 95)
  have e : cur = (treeC (List.replicate (T.length + 2) nd0) (List.replicate (T.length + 2) (.slice none 0 0))).toArray := by rw [← hc]
  rw [e] at hg ⊢
  exact own_of_cur hg (by rw [treeC_len (by simp)]; simp) (Nat.le_refl _) (by unfold maxLen; omega)
theorem TwS.bw {w W W' : World} {G : Nat} {T F : List Nd} {us : List Value} {i : Nat} (h : TwS w W G T F us i) (hb : Below W.heap.size W W') : TwS w W' G T F us i :=
  ⟨bw_tr h.bel hb, h.low, own_keep h.own (fun k hk => hb.block k (World.ownsRow.lt h.own k hk).2), h.fl, h.ul, h.done, h.zero,
   fun j n u hj hn hu => by obtain ⟨g, h1, h2, h3⟩ := h.un j n u hj hn hu; exact ⟨g, h1, h2, h3.keep (hb.block g h3.lt)⟩, h.apart⟩
/-- One node more. -/
theorem TwS.step {w W : World} {G : Nat} {T F : List Nd} {us : List Value} {i g : Nat} {n : Nd} (h : TwS w W G T F us i) (hn : T[i]? = some n) (hG : G < g) (hT : Twint W g n.un) (hnew : ∀ j u, j < i → us[j]? = some u → u.ownBlock ≠ some g) :
    TwS w ((((W.setCell ⟨G, i * 4, none⟩ (.int .i64 n.pub)).setCell ⟨G, i * 4 + 1, none⟩ (.int .i64 n.mem)).setCell ⟨G, i * 4 + 2, none⟩ (.int .i64 n.ep)).setCell ⟨G, i * 4 + 3, none⟩ (.slice (some ⟨g, 0, none⟩) n.un.length (n.un.length + 2))) G T (F.set i n) (us.set i (.slice (some ⟨g, 0, none⟩) n.un.length (n.un.length + 2))) (i + 1) := by
  have hi : i < T.length := (List.getElem?_eq_some_iff.1 hn).1
  have r1 := own_set h.own (g := G) rfl (j := i * 4) (.int .i64 n.pub)
  have r2 := own_set r1 (g := G) rfl (j := i * 4 + 1) (.int .i64 n.mem)
  have r3 := own_set r2 (g := G) rfl (j := i * 4 + 2) (.int .i64 n.ep)
  have r4 := own_set r3 (g := G) rfl (j := i * 4 + 3) (.slice (some ⟨g, 0, none⟩) n.un.length (n.un.length + 2))
  rw [treeC_set n (.slice (some ⟨g, 0, none⟩) n.un.length (n.un.length + 2)) (by rw [h.fl, h.ul]) (by rw [h.fl]; omega)] at r4
  have hb : Below w.heap.size w ((((W.setCell ⟨G, i * 4, none⟩ (.int .i64 n.pub)).setCell ⟨G, i * 4 + 1, none⟩ (.int .i64 n.mem)).setCell ⟨G, i * 4 + 2, none⟩ (.int .i64 n.ep)).setCell ⟨G, i * 4 + 3, none⟩ (.slice (some ⟨g, 0, none⟩) n.un.length (n.un.length + 2))) :=
    (((h.bel.setCell h.low _).setCell h.low _).setCell h.low _).setCell h.low _
  have f : ∀ k, k ≠ G → ((((W.setCell ⟨G, i * 4, none⟩ (.int .i64 n.pub)).setCell ⟨G, i * 4 + 1, none⟩ (.int .i64 n.mem)).setCell ⟨G, i * 4 + 2, none⟩ (.int .i64 n.ep)).setCell ⟨G, i * 4 + 3, none⟩ (.slice (some ⟨g, 0, none⟩) n.un.length (n.un.length + 2))).heap[k]? = W.heap[k]? := fun k hk => by
    rw [Below.heap_setCell _ _ _ _ (by simpa using hk), Below.heap_setCell _ _ _ _ (by simpa using hk), Below.heap_setCell _ _ _ _ (by simpa using hk), Below.heap_setCell _ _ _ _ (by simpa using hk)]
  generalize ((((W.setCell ⟨G, i * 4, none⟩ (.int .i64 n.pub)).setCell ⟨G, i * 4 + 1, none⟩ (.int .i64 n.mem)).setCell ⟨G, i * 4 + 2, none⟩ (.int .i64 n.ep)).setCell ⟨G, i * 4 + 3, none⟩ (.slice (some ⟨g, 0, none⟩) n.un.length (n.un.length + 2))) = W' at *
  refine ⟨hb, h.low, r4, by simp [h.fl], by simp [h.ul], fun j hj => ?_, fun j hj hj2 => ?_, fun j m u hj hm hu => ?_, fun j j' u u' k hj hj' hu hu' hk hk' => ?_⟩
  · rcases Nat.lt_or_ge j i with c | c
    · rw [List.getElem?_set_ne (by omega)]; exact h.done j c
    · obtain rfl : j = i := by omega
      rw [List.getElem?_set_self (by rw [h.fl]; omega), hn]
  · rw [List.getElem?_set_ne (by omega), List.getElem?_set_ne (by omega)]; exact h.zero j (by omega) hj2
  · rcases Nat.lt_or_ge j i with c | c
    · rw [List.getElem?_set_ne (by omega)] at hu
      obtain ⟨g', h1, h2, h3⟩ := h.un j m u c hm hu
      exact ⟨g', h1, h2, h3.keep (f g' (by omega))⟩
    · obtain rfl : j = i := by omega
      rw [List.getElem?_set_self (by rw [h.ul]; omega)] at hu
      cases hu
      rw [hn] at hm
      cases hm
      exact ⟨g, rfl, hG, hT.keep (f g (by omega))⟩
  · rcases Nat.lt_or_ge j i with c | c
    · rw [List.getElem?_set_ne (by omega)] at hu
      rcases Nat.lt_or_ge j' i with c' | c'
      · rw [List.getElem?_set_ne (by omega)] at hu'
        exact h.apart j j' u u' k c c' hu hu' hk hk'
      · obtain rfl : j' = i := by omega
        rw [List.getElem?_set_self (by rw [h.ul]; omega)] at hu'
        cases hu'
        cases hk'
        exact absurd hk (hnew j u c hu)
    · obtain rfl : j = i := by omega
      rw [List.getElem?_set_self (by rw [h.ul]; omega)] at hu
      cases hu
      cases hk
      rcases Nat.lt_or_ge j' j with c' | c'
      · rw [List.getElem?_set_ne (by omega)] at hu'
        exact absurd hk' (hnew j' u' c' hu')
      · omega
/-- A copy with its marks. -/
structure TwT (B : Nat) (W : World) (G : Nat) (T : List Nd) (us : List Value) : Prop where
  low : B ≤ G
  ul : us.length = T.length
  own : W.ownsRow B 95 4 (.slice (some ⟨G, 0, none⟩) (T.length + 2) (T.length + 2)) (T.length + 2) (treeC (T ++ [mkN T.length, mkN (T.length + 1)]) (us ++ [.slice none 0 0, .slice none 0 0]))
  un : ∀ (j : Nat) (n : Nd) (u : Value), T[j]? = some n → us[j]? = some u → ∃ g, u = .slice (some ⟨g, 0, none⟩) n.un.length (n.un.length + 2) ∧ B ≤ g ∧ Twint W g n.un
  apart : ∀ (i j : Nat) (u u' : Value) (k : Nat), us[i]? = some u → us[j]? = some u' → u.ownBlock = some k → u'.ownBlock = some k → i = j
theorem TwT.bw {B : Nat} {W W' : World} {G : Nat} {T : List Nd} {us : List Value} (h : TwT B W G T us) (hb : Below W.heap.size W W') : TwT B W' G T us :=
  ⟨h.low, h.ul, own_keep h.own (fun k hk => hb.block k (World.ownsRow.lt h.own k hk).2),
   fun j n u hn hu => by obtain ⟨g, h1, h2, h3⟩ := h.un j n u hn hu; exact ⟨g, h1, h2, h3.keep (hb.block g h3.lt)⟩, h.apart⟩
theorem TwT.otr {B : Nat} {W : World} {G : Nat} {T : List Nd} {us : List Value} (h : TwT B W G T us) (hu : ∀ n ∈ T, n.un.length ≤ 1048576) : OTr B W (.slice (some ⟨G, 0, none⟩) T.length (T.length + 2)) T us := by
  refine ⟨h.ul, ?_, fun i n u hn hu' => ?_, h.apart⟩
  · obtain ⟨cur, hg, hc, hB, hm⟩ := own_cur h.own
    have hl : (treeC T us).length = T.length * 4 := treeC_len h.ul
    refine ⟨hl, Or.inr ⟨G, T.length + 2, cur, rfl, hB, hg, by omega, hm, ?_, ?_⟩⟩
    · have : cur.toList.length = (T.length + 2) * 4 := by rw [hc, treeC_len (by simp [h.ul])]; simp
      simpa using this
    · rw [hc, treeC_app h.ul, List.take_left' hl]
  · obtain ⟨g, rfl, h2, h3⟩ := h.un i n u hn hu'
    exact h3.ints (hu n (List.mem_of_getElem? hn)) h2
/-- The cells of the marks. -/
theorem TwT.marks {B : Nat} {W : World} {G : Nat} {T : List Nd} {us : List Value} (h : TwT B W G T us) : NdC W G (T.length * 4) (mkN T.length) (.slice none 0 0) ∧ NdC W G ((T.length + 1) * 4) (mkN (T.length + 1)) (.slice none 0 0) := by
  have n0 : (T ++ [mkN T.length, mkN (T.length + 1)])[T.length]? = some (mkN T.length) := by simp
  have n1 : (T ++ [mkN T.length, mkN (T.length + 1)])[T.length + 1]? = some (mkN (T.length + 1)) := by simp
  have u0 : (us ++ [Value.slice none 0 0, .slice none 0 0])[T.length]? = some (.slice none 0 0) := by rw [← h.ul]; simp
  have u1 : (us ++ [Value.slice none 0 0, .slice none 0 0])[T.length + 1]? = some (.slice none 0 0) := by rw [← h.ul]; simp
  exact ⟨⟨by simpa using own_cell h.own rfl (treeC_get n0 u0 (j := 0) rfl), own_cell h.own rfl (treeC_get n0 u0 (j := 1) rfl), own_cell h.own rfl (treeC_get n0 u0 (j := 2) rfl), own_cell h.own rfl (treeC_get n0 u0 (j := 3) rfl)⟩,
    ⟨by simpa using own_cell h.own rfl (treeC_get n1 u1 (j := 0) rfl), own_cell h.own rfl (treeC_get n1 u1 (j := 1) rfl), own_cell h.own rfl (treeC_get n1 u1 (j := 2) rfl), own_cell h.own rfl (treeC_get n1 u1 (j := 3) rfl)⟩⟩
/-- All nodes are done; k marks are. -/
structure TwM (w W : World) (G : Nat) (T : List Nd) (us : List Value) (k : Nat) : Prop where
  bel : Below w.heap.size w W
  low : w.heap.size ≤ G
  ul : us.length = T.length
  own : W.ownsRow w.heap.size 95 4 (.slice (some ⟨G, 0, none⟩) (T.length + 2) (T.length + 2)) (T.length + 2) (treeC (T ++ [if 1 ≤ k then mkN T.length else nd0, if 2 ≤ k then mkN (T.length + 1) else nd0]) (us ++ [.slice none 0 0, .slice none 0 0]))
  un : ∀ (j : Nat) (n : Nd) (u : Value), T[j]? = some n → us[j]? = some u → ∃ g, u = .slice (some ⟨g, 0, none⟩) n.un.length (n.un.length + 2) ∧ G < g ∧ Twint W g n.un
  apart : ∀ (i j : Nat) (u u' : Value) (k : Nat), us[i]? = some u → us[j]? = some u' → u.ownBlock = some k → u'.ownBlock = some k → i = j
theorem TwS.all {w W : World} {G : Nat} {T F : List Nd} {us : List Value} (h : TwS w W G T F us T.length) : ∃ us', TwM w W G T us' 0 := by
  have hF : F = T ++ [nd0, nd0] := by
    apply List.ext_getElem?
    intro j
    rcases Nat.lt_or_ge j T.length with c | c
    · rw [h.done j c, List.getElem?_append_left c]
    · rcases Nat.lt_or_ge j (T.length + 2) with d | d
      · rw [(h.zero j c d).1, List.getElem?_append_right c]
        rcases Nat.eq_or_lt_of_le c with e | e
        · rw [← e]; simp
        · obtain rfl : j = T.length + 1 := by omega
          simp
      · rw [List.getElem?_eq_none (by rw [h.fl]; exact d), List.getElem?_eq_none (by simp; omega)]
  have hU : us = us.take T.length ++ [.slice none 0 0, .slice none 0 0] := by
    apply List.ext_getElem?
    intro j
    have hlt : (us.take T.length).length = T.length := by simp [h.ul]
    rcases Nat.lt_or_ge j T.length with c | c
    · rw [List.getElem?_append_left (by omega), List.getElem?_take_of_lt c]
    · rcases Nat.lt_or_ge j (T.length + 2) with d | d
      · rw [(h.zero j c d).2, List.getElem?_append_right (by omega), hlt]
        rcases Nat.eq_or_lt_of_le c with e | e
        · rw [← e]; simp
        · obtain rfl : j = T.length + 1 := by omega
          simp
      · rw [List.getElem?_eq_none (by rw [h.ul]; exact d), List.getElem?_eq_none (by simp; omega)]
  have hlt : (us.take T.length).length = T.length := by simp [h.ul]
  have hget : ∀ (j : Nat) u, (us.take T.length)[j]? = some u → j < T.length ∧ us[j]? = some u := fun j u hu => by
    have c : j < T.length := by have := (List.getElem?_eq_some_iff.1 hu).1; omega
    rw [List.getElem?_take_of_lt c] at hu
    exact ⟨c, hu⟩
  refine ⟨us.take T.length, h.bel, h.low, hlt, ?_, fun j n u hn hu => ?_, fun i j u u' k hu hu' hk hk' => ?_⟩
  · have := h.own
    rw [hF, hU] at this
    simpa using this
  · obtain ⟨c, hu2⟩ := hget j u hu
    exact h.un j n u c hn hu2
  · obtain ⟨c, hu2⟩ := hget i u hu
    obtain ⟨c', hu2'⟩ := hget j u' hu'
    exact h.apart i j u u' k c c' hu2 hu2' hk hk'
theorem TwM.bw {w W W' : World} {G : Nat} {T : List Nd} {us : List Value} {k : Nat} (h : TwM w W G T us k) (hb : Below W.heap.size W W') : TwM w W' G T us k :=
  ⟨bw_tr h.bel hb, h.low, h.ul, own_keep h.own (fun k hk => hb.block k (World.ownsRow.lt h.own k hk).2),
   fun j n u hn hu => by obtain ⟨g, h1, h2, h3⟩ := h.un j n u hn hu; exact ⟨g, h1, h2, h3.keep (hb.block g h3.lt)⟩, h.apart⟩
theorem set_two {k : Nat} (hk : k < 2) {a : Value} : [a, a].set k a = [a, a] := by
  match k, hk with
  | 0, _ => rfl
  | 1, _ => rfl
theorem set_marks {k N : Nat} (hk : k < 2) : [if 1 ≤ k then mkN N else nd0, if 2 ≤ k then mkN (N + 1) else nd0].set k ⟨mkI (N + k), 0, 0, []⟩ = [if 1 ≤ k + 1 then mkN N else nd0, if 2 ≤ k + 1 then mkN (N + 1) else nd0] := by
  match k, hk with
  | 0, _ => rfl
  | 1, _ => rfl
theorem TwM.step {w W : World} {G : Nat} {T : List Nd} {us : List Value} {k x : Nat} (hk : k < 2) (hx : x = T.length + k) (h : TwM w W G T us k) {m : Int} (hm : m = mkI x) :
    TwM w ((((W.setCell ⟨G, x * 4, none⟩ (.int .i64 m)).setCell ⟨G, x * 4 + 1, none⟩ (.int .i64 0)).setCell ⟨G, x * 4 + 2, none⟩ (.int .i64 0)).setCell ⟨G, x * 4 + 3, none⟩ (.slice none 0 0)) G T us (k + 1) := by
  have hul : (us ++ [Value.slice none 0 0, .slice none 0 0]).length = (T ++ [if 1 ≤ k then mkN T.length else nd0, if 2 ≤ k then mkN (T.length + 1) else nd0]).length := by simp [h.ul]
  have r1 := own_set h.own (g := G) rfl (j := x * 4) (.int .i64 m)
  have r2 := own_set r1 (g := G) rfl (j := x * 4 + 1) (.int .i64 0)
  have r3 := own_set r2 (g := G) rfl (j := x * 4 + 2) (.int .i64 0)
  have r4 := own_set r3 (g := G) rfl (j := x * 4 + 3) (.slice none 0 0)
  have ts := treeC_set (i := x) ⟨m, 0, 0, []⟩ (.slice none 0 0) hul (by simp; omega)
  rw [ts] at r4
  have hu2 : (us ++ [Value.slice none 0 0, .slice none 0 0]).set x (.slice none 0 0) = us ++ [.slice none 0 0, .slice none 0 0] := by
    rw [hx, List.set_append_right _ _ (by rw [h.ul]; omega), h.ul, Nat.add_sub_cancel_left, set_two hk]
  have hF2 : (T ++ [if 1 ≤ k then mkN T.length else nd0, if 2 ≤ k then mkN (T.length + 1) else nd0]).set x ⟨m, 0, 0, []⟩ = T ++ [if 1 ≤ k + 1 then mkN T.length else nd0, if 2 ≤ k + 1 then mkN (T.length + 1) else nd0] := by
    rw [hm, hx, List.set_append_right _ _ (by omega), Nat.add_sub_cancel_left, set_marks hk]
  rw [hu2, hF2] at r4
  have f1 : Fr [G] W ((((W.setCell ⟨G, x * 4, none⟩ (.int .i64 m)).setCell ⟨G, x * 4 + 1, none⟩ (.int .i64 0)).setCell ⟨G, x * 4 + 2, none⟩ (.int .i64 0)).setCell ⟨G, x * 4 + 3, none⟩ (.slice none 0 0)) :=
    (((((Fr.refl [G] W).setCell (a := ⟨G, x * 4, none⟩) (Or.inr (by simp)) _).setCell (a := ⟨G, x * 4 + 1, none⟩) (Or.inr (by simp)) _).setCell (a := ⟨G, x * 4 + 2, none⟩) (Or.inr (by simp)) _).setCell (a := ⟨G, x * 4 + 3, none⟩) (Or.inr (by simp)) _)
  generalize ((((W.setCell ⟨G, x * 4, none⟩ (.int .i64 m)).setCell ⟨G, x * 4 + 1, none⟩ (.int .i64 0)).setCell ⟨G, x * 4 + 2, none⟩ (.int .i64 0)).setCell ⟨G, x * 4 + 3, none⟩ (.slice none 0 0)) = W' at *
  exact ⟨Fr.toBase h.bel f1 (fun y hy => by simp at hy; subst hy; exact h.low), h.low, h.ul, r4, fun j n u hn hu => by obtain ⟨g, h1, h2, h3⟩ := h.un j n u hn hu; exact ⟨g, h1, h2, h3.keep (f1.block g h3.lt (by simp; omega))⟩, h.apart⟩
theorem TwM.fin {w W : World} {G : Nat} {T : List Nd} {us : List Value} (h : TwM w W G T us 2) : TwT w.heap.size W G T us :=
  ⟨h.low, h.ul, h.own, fun j n u hn hu => by obtain ⟨g, h1, h2, h3⟩ := h.un j n u hn hu; exact ⟨g, h1, by have := h.low; omega, h3⟩, h.apart⟩
end Go.Proofs.YtpgppnmobbgefaaGreatDoor
