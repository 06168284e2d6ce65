/- Texts joined: DkG DkH DkJ. -/
import Derived.Test.YtfnpeiikjiffeaaGreatBaD
import Derived.Test.YtfnpeiikjiffeaaGreatDkI
/- Contract of Read of package disk. -/
namespace Go.Proofs.YtfnpeiikjiffeaaGreat
open Go.RowKit Go.Maps

theorem blk_cell {X : World} {b : Nat} {s : ByteArray} (h : X.heap[b]? = some (.cells (blkC s).toArray 123 (0, 0))) (j : Nat) (hj : j < s.data.toList.length) : X.cell? ((⟨b, 0, none⟩ : Addr).add j) = some (.int .u8 ((s.data.toList[j]).toNat : Int)) := by
  rw [Addr.add_mid, Nat.zero_add, cell_of_row X b j _ _ _ h]
  simp only [List.getElem?_toArray, blkC, List.getElem?_map, List.getElem?_eq_getElem hj, Option.map_some]
theorem conv_block (X : World) (b : Nat) (s : ByteArray) (hs : s.size = 64) (h : X.heap[b]? = some (.cells (blkC s).toArray 123 (0, 0))) : (convert 59 9 (.slice (some ⟨b, 0, none⟩) 64 64)).run Tryz.prog X = .ok (.string s) X := by
  have hl : s.data.toList.length = 64 := by rw [Array.length_toList]; exact hs
  have := run_convert_bytes_back (P := Tryz.prog) X 59 9 5 ⟨b, 0, none⟩ 64 s.data.toList Tryz.underlying59 Tryz.underlying5 Tryz.underlying9 (blk_cell h)
  rw [hl] at this
  rw [this]
set_option maxRecDepth 100000 in
theorem read_down {d : Nat} {S : DS} {Z : List Nat} {w : World} (h : DkS w d S Z) (hu : S.up = false) (x : Int) :
    Calls Tryz.prog 62 #[ptr d, .int .i64 x] w fun e w' => e = .returned (.tuple #[.string ByteArray.empty, .int .i64 6]) ∧ w' = w := by
  have K := ready_any h
  rw [hu] at K
  unfold rdy ptr at *
  simp only [if_true] at K
  clear h
  go_enter Tryz.func62, Tryz.ntmps62
  go_wp2_with fail
  refine K.mono ?_
  rintro e w ⟨rfl, rfl⟩
  go_wp2_with fail
  go_ret2
  exact ⟨rfl, rfl⟩
set_option maxRecDepth 100000 in
theorem read_out {d : Nat} {S : DS} {Z : List Nat} {w : World} (h : DkS w d S Z) (hu : S.up = true) (x : Int) (hx : x < 0 ∨ (S.N : Int) ≤ x) :
    Calls Tryz.prog 62 #[ptr d, .int .i64 x] w fun e w' => e = .returned (.tuple #[.string ByteArray.empty, .int .i64 1]) ∧ w' = w := by
  have K := ready_any h
  have KH := has_any h x
  rw [hu] at K
  have e1 : decide (0 ≤ x ∧ x < (S.N : Int)) = false := by simp; omega
  rw [e1] at KH
  unfold rdy ptr at *
  simp only [Bool.true_eq_false, if_false] at K
  clear h e1 hx
  go_enter Tryz.func62, Tryz.ntmps62
  go_wp2_with fail
  refine K.mono ?_
  rintro e w ⟨rfl, rfl⟩
  go_wp2_with fail
  refine KH.mono ?_
  rintro e w ⟨rfl, rfl⟩
  go_wp2_with fail
  go_ret2
  exact ⟨rfl, rfl⟩
set_option maxRecDepth 100000 in
set_option maxHeartbeats 2000000 in
theorem read_in {d : Nat} {S : DS} {Z : List Nat} {w : World} (h : DkS w d S Z) (hu : S.up = true) (k : Nat) (hk : k < S.N) :
    Calls Tryz.prog 62 #[ptr d, .int .i64 (k : Int)] w fun e w' => e = .returned (.tuple #[.string (S.now k), .int .i64 0]) ∧ Below w.heap.size w w' := by
  have K := ready_any h
  have KH := has_any h (k : Int)
  rw [hu] at K
  have e1 : decide (0 ≤ (k : Int) ∧ (k : Int) < (S.N : Int)) = true := by simp; omega
  rw [e1] at KH
  obtain ⟨nb, sb, cb, fv, cv, rfl, h1⟩ := h
  have hs := h1.ok.now k
  have L := h1.now.look h1.ok.n2 hk
  obtain ⟨_, _, _, _, c4, _, _, _, _⟩ := h1.cells
  unfold blkV at L
  obtain ⟨T, hT⟩ : ∃ T, T = (blkC (S.now k)).toArray := ⟨_, rfl⟩
  rw [← hT] at L
  have hT1 : T.size = 64 := by rw [hT]; exact blk_sz hs
  have hT2 : T.all (·.oneCell') = true := by rw [hT]; exact blk_one _
  have HC := hide (fun (X : World) (b : Nat) (g : X.heap[b]? = some (.cells T 123 (0, 0))) => conv_block X b (S.now k) hs (by rw [← hT]; exact g))
  unfold rdy ptr at *
  simp only [Bool.true_eq_false, if_false] at K
  clear h1 e1 hT hs hk hu
  go_enter Tryz.func62, Tryz.ntmps62
  go_wp2_with fail
  refine K.mono ?_
  rintro e w ⟨rfl, rfl⟩
  go_wp2_with fail
  refine KH.mono ?_
  rintro e w ⟨rfl, rfl⟩
  go_upto_region 7 with (refine wpList_store_row rfl 123 (.tmp 7) (.tmp 22) rfl w.heap.size T rfl rfl 123 _ (heap_alloc_new _ _) (infoRow hT1) (by rw [hT1]; rfl) hT2 ?_)
  generalize hW : World.setRow (w.alloc _) w.heap.size T = W1
  have hc := unhide HC W1 w.heap.size (by rw [← hW]; exact setRow_heap _ _ _ _ _ _ (heap_alloc_new _ _))
  have hb : Below w.heap.size w W1 := by rw [← hW]; exact below_setRow ((Below.refl _ _).alloc (Nat.le_refl _) _) (Nat.le_refl _) _
  clear hW HC L hT1 hT2 c4
  have HB := hide hb
  clear hb
  go_wp2_with fail
  go_ret2
  exact ⟨rfl, unhide HB⟩
theorem read_any {d : Nat} {S : DS} {Z : List Nat} {w : World} (h : DkS w d S Z) (x : Int) :
    Calls Tryz.prog 62 #[ptr d, .int .i64 x] w fun e w' => e = .returned (.tuple #[.string (S.read x).1, .int .i64 (S.read x).2]) ∧ Below w.heap.size w w' := by
  unfold DS.read
  cases hu : S.up
  · simp only [if_true]
    refine (read_down h hu x).mono ?_
    rintro e w' ⟨rfl, rfl⟩
    exact ⟨rfl, Below.refl _ _⟩
  · simp only [Bool.true_eq_false, if_false]
    by_cases hx : x < 0 ∨ (S.N : Int) ≤ x
    · simp only [hx, if_true]
      refine (read_out h hu x hx).mono ?_
      rintro e w' ⟨rfl, rfl⟩
      exact ⟨rfl, Below.refl _ _⟩
    · simp only [hx, if_false]
      have K := read_in h hu x.toNat (by omega)
      have e : ((x.toNat : Nat) : Int) = x := by omega
      rw [e] at K
      exact K

end Go.Proofs.YtfnpeiikjiffeaaGreat

/- Contract of Filled: a sector of a byte. -/
namespace Go.Proofs.YtfnpeiikjiffeaaGreat
open Go.RowKit Go.Maps

def fbyte (b : Int) (i : Nat) : UInt8 := UInt8.ofNat ((b + ((i % 2 : Nat) : Int)) % 256).toNat
def fil (b : Int) (n : Nat) : ByteArray := ⟨((List.range n).map (fbyte b)).toArray⟩
def fln (less : Int) : Nat := if IntKind.i64.wrap (64 - less) < 0 ∨ 128 < IntKind.i64.wrap (64 - less) then 0 else (IntKind.i64.wrap (64 - less)).toNat
theorem fil_size (b : Int) (n : Nat) : (fil b n).size = n := by simp [fil, ByteArray.size]
theorem fln_le (less : Int) : fln less ≤ 128 := by unfold fln; split <;> omega
def filC (b : Int) (n i : Nat) : List Value := (List.range n).map fun j => if j < i then .int .u8 ((fbyte b j).toNat : Int) else .int .u8 0
theorem fbyte_val (b : Int) (i : Nat) : ((fbyte b i).toNat : Int) = (b + ((i % 2 : Nat) : Int)) % 256 := by
  unfold fbyte
  have h1 : 0 ≤ (b + ((i % 2 : Nat) : Int)) % 256 := Int.emod_nonneg _ (by decide)
  have h2 : (b + ((i % 2 : Nat) : Int)) % 256 < 256 := Int.emod_lt_of_pos _ (by decide)
  rw [UInt8.toNat_ofNat', Nat.mod_eq_of_lt (by omega)]
  omega
theorem filC_set (b : Int) {n i : Nat} (h : i < n) : (filC b n i).set i (.int .u8 ((b + ((i % 2 : Nat) : Int)) % 256)) = filC b n (i + 1) := by
  apply List.ext_getElem?
  intro j
  rw [List.getElem?_set]
  simp only [filC, List.length_map, List.length_range, List.getElem?_map]
  by_cases c : i = j
  · subst c
    simp [h, fbyte_val]
  · simp only [c, if_false]
    by_cases q : j < n
    · simp only [List.getElem?_range q, Option.map_some]
      by_cases e : j < i
      · simp [e, show j < i + 1 by omega]
      · simp [e, show ¬ j < i + 1 by omega]
    · simp [q]
theorem Tryz.infoU8s : (Tryz.prog.info? 5).map (fun i => (i.zero, i.size, i.bytes)) = some (some (.int .u8 0), 1, 1) := by kernel_rfl
theorem info_u8 : ∃ i, Tryz.prog.info? 5 = some i ∧ i.zero = some (.int .u8 0) ∧ i.size = 1 ∧ i.bytes = 1 := by
  have h := Tryz.infoU8s
  cases hi : Tryz.prog.info? 5 with
  | none => rw [hi] at h; cases h
  | some i => rw [hi] at h; simp at h; exact ⟨i, rfl, h.1, h.2.1, h.2.2⟩
theorem made_zero (n : Nat) : (madeCells (Value.int .u8 0).cells (n * 1)).toList = filC 0 n 0 := by
  apply List.ext_getElem?
  intro j
  simp only [filC, List.getElem?_map]
  by_cases q : j < n
  · have e : j % 1 = 0 := Nat.mod_one j
    simp [madeCells, Value.cells, q, e]
  · simp [madeCells, Value.cells, q]
theorem filC_zero (b : Int) (n : Nat) : filC b n 0 = filC 0 n 0 := by simp [filC]
end Go.Proofs.YtfnpeiikjiffeaaGreat

/- alive: what is so of whoever does something at all. -/
namespace Go.Proofs.YtfnpeiikjiffeaaGreat
open Go.RowKit Go.Maps

theorem fln_zero : fln 0 = 64 := by decide
theorem fate_two : fate 2 0 = 2 := by decide
/-- The disks of alive, one behind the other. -/
def al1 (a : ByteArray) : DS := ((DS.new 2).put 0 a).did
def al2 (a : ByteArray) : DS := (al1 a).settle.did
def al3 (a b : ByteArray) : DS := ((al2 a).put 0 b).did
def al4 (a b : ByteArray) : DS := (al3 a b).fall 2
def al5 (a b : ByteArray) : DS := { al4 a b with up := true, cut := none }
theorem al_w1 {a : ByteArray} (h : a.size = 64) : (DS.new 2).write 0 a = (al1 a, 0) := by
  simp [DS.write, DS.new, h, DS.come, al1]
theorem al_s2 (a : ByteArray) : (al1 a).sync = (al2 a, 0) := by
  simp [DS.sync, al1, al2, DS.put, DS.did, DS.new, DS.come, DS.settle]
theorem al_w3 (a : ByteArray) {b : ByteArray} (h : b.size = 64) : (al2 a).write 0 b = (al3 a b, 0) := by
  simp [DS.write, al1, al2, al3, DS.put, DS.did, DS.new, DS.come, DS.settle, h]
theorem al_c4 (a b : ByteArray) : (al3 a b).crash 2 = (al4 a b, 0) := by
  simp [DS.crash, al1, al2, al3, al4, DS.put, DS.did, DS.new, DS.settle]
theorem al_s5 (a b : ByteArray) : (al4 a b).start = (al5 a b, 0) := by
  simp [DS.start, al4, al5, DS.fall]
theorem al_r6 (a b : ByteArray) : (al5 a b).read 0 = (b.extract 0 32 ++ a.extract 32 64, 0) := by
  have e : (al5 a b).now 0 = b.extract 0 32 ++ a.extract 32 64 := by
    simp [DS.now, al5, al4, al3, al2, al1, DS.fall, DS.put, DS.did, DS.settle, DS.new, cur, fl, upd, fate_two, torn]
  have hu : (al5 a b).up = true := rfl
  have hN : ((al5 a b).N : Int) = 2 := rfl
  simp [DS.read, hu, hN, e]
theorem al_cnt (a b : ByteArray) : (al5 a b).cnt = 3 := rfl

end Go.Proofs.YtfnpeiikjiffeaaGreat
