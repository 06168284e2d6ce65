/- Texts joined: JnPure JnA JnB JnC. -/
import Derived.Test.YtfnpeiikjiffeaaGreatBaF
import Derived.Laws.Bits64b
import Derived.Test.YtfnpeiikjiffeaaGreatBaA
/- A journal's heads, plainly. No program is in this text. -/
namespace Go.Proofs.YtfnpeiikjiffeaaGreat

/-- A number as so many bytes, the highest first. -/
def be : Nat → Nat → List UInt8
  | 0, _ => []
  | k + 1, n => UInt8.ofNat (n / 256 ^ k % 256) :: be k n
theorem be_len (k n : Nat) : (be k n).length = k := by
  induction k with
  | zero => rfl
  | succ k ih => simp [be, ih]
theorem be_get (k n t : Nat) (h : t < k) : (be k n)[t]? = some (UInt8.ofNat (n / 256 ^ (k - 1 - t) % 256)) := by
  induction k generalizing t with
  | zero => omega
  | succ k ih =>
    cases t with
    | zero => simp [be]
    | succ t =>
      have := ih t (by omega)
      simp only [be, List.getElem?_cons_succ]
      rw [this]
      have e : k - 1 - t = k + 1 - 1 - (t + 1) := by omega
      rw [e]
theorem be_take_succ (k n t : Nat) (h : t < k) : (be k n).take (t + 1) = (be k n).take t ++ [UInt8.ofNat (n / 256 ^ (k - 1 - t) % 256)] := by
  rw [List.take_add_one, be_get k n t h]; rfl
/-- The first bytes of a text as a sector, with noughts behind. -/
def fill (l : List UInt8) : ByteArray := ⟨(l.take 64 ++ List.replicate (64 - l.length) 0).toArray⟩
theorem fill_size (l : List UInt8) : (fill l).size = 64 := by
  simp only [fill, ByteArray.size, List.size_toArray, List.length_append, List.length_take, List.length_replicate]; omega
theorem fill_get (l : List UInt8) (i : Nat) (x : UInt8) (h : l[i]? = some x) (hi : i < 64) : (fill l).data.toList[i]? = some x := by
  simp only [fill, List.toList_toArray]
  rw [List.getElem?_append_left (by have := (List.getElem?_eq_some_iff.1 h).1; simp; omega), List.getElem?_take, if_pos hi]
  exact h
def hdL (n len : Nat) : List UInt8 := if n = 0 then [] else 74 :: (be 8 n ++ be 4 len)
theorem hdL_len (n len : Nat) : (hdL n len).length ≤ 13 := by
  unfold hdL; split
  · simp
  · simp [be_len]
/-- The head of a text of a number; of the number 0: none. -/
def hd (n len : Nat) : ByteArray := fill (hdL n len)
theorem hd_size (n len : Nat) : (hd n len).size = 64 := fill_size _
theorem hd_zero (len : Nat) : hd 0 len = nought := rfl
theorem fill_tail {l : List UInt8} (h : l.length ≤ 32) : (fill l).extract 32 64 = ⟨(List.replicate 32 (0 : UInt8)).toArray⟩ := by
  apply ByteArray.ext
  apply Array.ext'
  simp only [fill, ByteArray.data_extract, Array.toList_extract, List.extract_eq_take_drop, List.toList_toArray]
  rw [List.take_of_length_le (l := l) (by omega), List.drop_append, List.drop_of_length_le h, List.nil_append, List.drop_replicate, List.take_of_length_le (by simp; omega)]
  congr 1; omega
theorem hd_tail (n len : Nat) : (hd n len).extract 32 64 = ⟨(List.replicate 32 (0 : UInt8)).toArray⟩ := fill_tail (Nat.le_trans (hdL_len n len) (by omega))
theorem split64 {s : ByteArray} (h : s.size = 64) : s.extract 0 32 ++ s.extract 32 64 = s := by
  cases s with | mk s =>
  have h : s.size = 64 := h
  apply ByteArray.ext
  apply Array.ext'
  have hl : s.toList.length = 64 := by simpa using h
  simp only [ByteArray.data_append, ByteArray.data_extract, Array.toList_append, Array.toList_extract, List.extract_eq_take_drop]
  rw [List.drop_zero]
  conv => rhs; rw [← List.take_append_drop 32 s.toList]
  congr 1
  exact List.take_of_length_le (by simp; omega)
/-- A torn head is the old or the new one. -/
theorem torn_hd (n len m len2 : Nat) (how : Int) : torn (hd n len) (hd m len2) how = hd n len ∨ torn (hd n len) (hd m len2) how = hd m len2 := by
  unfold torn
  split
  · exact Or.inr rfl
  · split
    · right; rw [hd_tail n len, ← hd_tail m len2]; exact split64 (hd_size _ _)
    · split
      · left; rw [hd_tail m len2, ← hd_tail n len]; exact split64 (hd_size _ _)
      · exact Or.inl rfl
/-! Bytes of numbers, as the program reckons them. -/
theorem and255 (a : Nat) (h : a < 9223372036854775808) : Go.bits BinOp.and IntKind.i64 (a : Int) 255 = ((a % 256 : Nat) : Int) := by
  have h' : Go.bits BinOp.and IntKind.i64 (a : Int) 255 = IntKind.i64.wrap ((BitVec.ofInt 64 (a : Int) &&& BitVec.ofInt 64 255).toNat : Int) := rfl
  have e : (BitVec.ofInt 64 255).toNat = 2 ^ 8 - 1 := by decide
  have e2 : (BitVec.ofInt 64 (a : Int)).toNat = a := by rw [BitVec.ofInt_natCast, BitVec.toNat_ofNat]; exact Nat.mod_eq_of_lt (by omega)
  rw [h', BitVec.toNat_and, e, e2, Nat.and_two_pow_sub_one_eq_mod]
  simp only [IntKind.wrap, IntKind.bits, IntKind.signed]
  have : a % 2 ^ 8 < 256 := Nat.mod_lt _ (by decide)
  have e3 : a % 2 ^ 8 = a % 256 := rfl
  rw [e3] at this ⊢
  generalize a % 256 = r at *
  simp
  omega
set_option maxRecDepth 100000 in
theorem or_byte (a b : Nat) (h : a * 256 + b < 9223372036854775808) (hb : b < 256) : Go.bits BinOp.or IntKind.i64 ((a * 256 : Nat) : Int) (b : Int) = ((a * 256 + b : Nat) : Int) := by
  have h' : Go.bits BinOp.or IntKind.i64 ((a * 256 : Nat) : Int) (b : Int) = IntKind.i64.wrap ((BitVec.ofInt 64 ((a * 256 : Nat) : Int) ||| BitVec.ofInt 64 (b : Int)).toNat : Int) := rfl
  have e1 : (BitVec.ofInt 64 ((a * 256 : Nat) : Int)).toNat = a * 256 := by
    have hh : a * 256 < 9223372036854775808 := by omega
    generalize a * 256 = q at *
    rw [BitVec.ofInt_natCast, BitVec.toNat_ofNat]; exact Nat.mod_eq_of_lt (by omega)
  have e2 : (BitVec.ofInt 64 (b : Int)).toNat = b := by rw [BitVec.ofInt_natCast, BitVec.toNat_ofNat]; exact Nat.mod_eq_of_lt (by omega)
  have e3 : a * 256 ||| b = a * 256 + b := by
    have := (Nat.two_pow_add_eq_or_of_lt (i := 8) (b := b) hb a).symm
    rw [Nat.mul_comm a 256]; exact this
  rw [h', BitVec.toNat_or, e1, e2, e3]
  simp only [IntKind.wrap, IntKind.bits, IntKind.signed]
  generalize a * 256 + b = r at *
  simp
  omega
theorem div_step (n k t : Nat) (ht : t < k) : n / 256 ^ (k - (t + 1)) = n / 256 ^ (k - t) * 256 + n / 256 ^ (k - 1 - t) % 256 := by
  have e1 : k - (t + 1) = k - 1 - t := by omega
  have e2 : k - t = (k - 1 - t) + 1 := by omega
  rw [e1, e2, Nat.pow_succ, ← Nat.div_div_eq_div_mul]
  omega

end Go.Proofs.YtfnpeiikjiffeaaGreat

/- Contracts of package journal: what only reckons. -/
namespace Go.Proofs.YtfnpeiikjiffeaaGreat
open Go.RowKit Go.Maps

theorem half_any (n len : Nat) (hn : n ≤ 9223372036854775806) (w : World) :
    Calls Tryz.prog 107 #[.agg #[.int .i64 (n : Int), .int .i64 (len : Int)]] w fun e w' => e = .returned (.int .i64 (((n + 1) % 2 : Nat) : Int)) ∧ Below w.heap.size w w' := by
  have h1 : IntKind.i64.wrap ((n : Int) + 1) = ((n + 1 : Nat) : Int) := by rw [wrap_i64 (by omega) (by omega)]; omega
  have htm : Int.tmod ((n + 1 : Nat) : Int) 2 = (((n + 1) % 2 : Nat) : Int) := by rw [Int.tmod_eq_emod_of_nonneg (by omega)]; omega
  have hmod : ((n + 1 : Nat) : Int) % 2 = (((n + 1) % 2 : Nat) : Int) := by omega
  have hc := cell_two5 w (.int .i64 (n : Int)) (.int .i64 (len : Int)) 111
  obtain ⟨c0, c1⟩ := hc
  have hn2 : (n : Int) ≤ 9223372036854775806 := by omega
  generalize (n + 1) % 2 = r at *
  generalize n + 1 = m at *
  go_enter Tryz.func107, Tryz.ntmps107
  go_wp2_with fail
  go_ret
  exact ⟨rfl, bw_alloc _ _⟩
theorem depth_any {w W : World} {d : Nat} {S : DS} {rs : List Res} (h : ED w W d S rs) (h2 : 2 ≤ S.N) :
    Calls Tryz.prog 108 #[.pointer (some ⟨d, 0, none⟩)] W fun e W' => e = .returned (.int .i64 (((S.N - 2) / 2 : Nat) : Int)) ∧ W' = W := by
  have K := h.len
  have hN := h.ok.n2
  have htd : Int.tdiv ((S.N : Int) - 2) 2 = (((S.N - 2) / 2 : Nat) : Int) := by rw [Int.tdiv_eq_ediv_of_nonneg (by omega)]; omega
  have hdd : ((S.N : Int) - 2) / 2 = (((S.N - 2) / 2 : Nat) : Int) := by omega
  have g1 : (S.N : Int) ≤ 4096 := by omega
  have g2 : 0 ≤ (S.N : Int) - 2 := by omega
  clear h h2 hN
  generalize (((S.N - 2) / 2 : Nat) : Int) = r at *
  generalize (S.N : Int) = N at *
  go_enter Tryz.func108, Tryz.ntmps108
  go_wp2_with fail
  refine K.mono ?_
  rintro e W ⟨rfl, rfl⟩
  go_wp2_with fail
  go_ret
  exact ⟨rfl, rfl⟩
theorem room_any {w W : World} {d : Nat} {S : DS} {rs : List Res} (h : ED w W d S rs) (h2 : 2 ≤ S.N) :
    Calls Tryz.prog 92 #[.pointer (some ⟨d, 0, none⟩)] W fun e W' => e = .returned (.int .i64 (((S.N - 2) / 2 * 64 : Nat) : Int)) ∧ W' = W := by
  have K := depth_any h h2
  have hN := h.ok.n2
  have hr : (S.N - 2) / 2 ≤ 2047 := by omega
  have e : (((S.N - 2) / 2 * 64 : Nat) : Int) = (((S.N - 2) / 2 : Nat) : Int) * 64 := by omega
  rw [e]
  clear h h2 hN e
  generalize (S.N - 2) / 2 = r at *
  go_enter Tryz.func92, Tryz.ntmps92
  go_wp2_with fail
  refine K.mono ?_
  rintro e W ⟨rfl, rfl⟩
  go_wp2_with fail
  go_ret
  exact ⟨by go_num, rfl⟩
/-- How many writes and syncs a text takes. -/
def costN (n : Nat) : Nat := n / 64 + 3 + if n % 64 = 0 then 0 else 1
/-- Whether two numbers may stand in the halves. -/
def pairB (o e : Nat) : Bool := if o = 0 then e == 0 else (o % 2 == 1) && ((o == e + 1) || (e == o + 1))
theorem pair_any (o e : Nat) (ho : o ≤ 9223372036854775807) (he : e ≤ 9223372036854775807) (w : World) : Calls Tryz.prog 85 #[.int .i64 (o : Int), .int .i64 (e : Int)] w fun r w' => r = .returned (.bool (pairB o e)) ∧ w' = w := by
  obtain ⟨z, hz⟩ : ∃ z, z = pairB o e := ⟨_, rfl⟩
  rw [← hz]
  have w1 : IntKind.i64.wrap ((o : Int) - (e : Int)) = (o : Int) - (e : Int) := wrap_i64 (by omega) (by omega)
  have w2 : IntKind.i64.wrap ((e : Int) - (o : Int)) = (e : Int) - (o : Int) := wrap_i64 (by omega) (by omega)
  have htm : Int.tmod (o : Int) 2 = ((o % 2 : Nat) : Int) := by rw [Int.tmod_eq_emod_of_nonneg (by omega)]; omega
  have hmod : (o : Int) % 2 = ((o % 2 : Nat) : Int) := by omega
  by_cases h0 : o = 0
  · subst h0
    by_cases h1 : e = 0
    · subst h1
      have : z = true := by rw [hz]; rfl
      subst this
      clear hz
      go_enter Tryz.func85, Tryz.ntmps85
      go_wp2_with fail
      go_ret
      exact ⟨rfl, rfl⟩
    · have : z = false := by rw [hz]; simp [pairB, h1]
      subst this
      have d0 : (e : Int) ≠ 0 := by omega
      have d1 : ((e : Int) == 0) = false := by rw [beq_eq_false_iff_ne]; exact d0
      have d2 : decide ((e : Int) = 0) = false := decide_eq_false d0
      clear hz
      go_enter Tryz.func85, Tryz.ntmps85
      go_wp2_with fail
      go_ret
      exact ⟨rfl, rfl⟩
  · have d0 : (o : Int) ≠ 0 := by omega
    have d1 : ((o : Int) == 0) = false := by rw [beq_eq_false_iff_ne]; exact d0
    have d2 : decide ((o : Int) = 0) = false := decide_eq_false d0
    have hr2 : o % 2 = 0 ∨ o % 2 = 1 := by omega
    rcases hr2 with hr | hr
    · have : z = false := by rw [hz]; simp [pairB, h0, hr]
      subst this
      rw [hr] at htm hmod
      clear hz
      go_enter Tryz.func85, Tryz.ntmps85
      go_wp2_with fail
      go_ret
      exact ⟨rfl, rfl⟩
    · rw [hr] at htm hmod
      by_cases h1 : o = e + 1
      · have : z = true := by rw [hz]; unfold pairB; rw [if_neg h0, hr, beq_iff_eq.2 h1]; rfl
        subst this
        have k0 : (o : Int) - (e : Int) = 1 := by omega
        clear hz h1 hr
        go_enter Tryz.func85, Tryz.ntmps85
        go_wp2_with fail
        go_ret
        exact ⟨rfl, rfl⟩
      · have k0 : (o : Int) - (e : Int) ≠ 1 := by omega
        have k1 : ((o : Int) - (e : Int) == 1) = false := by rw [beq_eq_false_iff_ne]; exact k0
        have k2 : decide ((o : Int) - (e : Int) = 1) = false := decide_eq_false k0
        by_cases h3 : e = o + 1
        · have : z = true := by rw [hz]; unfold pairB; rw [if_neg h0, hr, beq_iff_eq.2 h3]; simp
          subst this
          have q0 : (e : Int) - (o : Int) = 1 := by omega
          clear hz h3 hr
          go_enter Tryz.func85, Tryz.ntmps85
          go_wp2_with fail
          go_ret
          exact ⟨rfl, rfl⟩
        · have : z = false := by rw [hz]; simp [pairB, h0, hr, h1, h3]
          subst this
          have q0 : (e : Int) - (o : Int) ≠ 1 := by omega
          have q1 : ((e : Int) - (o : Int) == 1) = false := by rw [beq_eq_false_iff_ne]; exact q0
          have q2 : decide ((e : Int) - (o : Int) = 1) = false := decide_eq_false q0
          clear hz
          go_enter Tryz.func85, Tryz.ntmps85
          go_wp2_with fail
          go_ret
          exact ⟨rfl, rfl⟩

end Go.Proofs.YtfnpeiikjiffeaaGreat

/- Contracts of package journal: filled. -/
namespace Go.Proofs.YtfnpeiikjiffeaaGreat
open Go.RowKit Go.Maps

theorem arrU : Tryz.prog.underlying 122 = some (.array 64 5) := by kernel_rfl
theorem fill_cells (s : ByteArray) : blkC (fill s.data.toList) = (blkC s).take 64 ++ (blkC nought).drop (min 64 s.size) := by
  have hs : s.data.toList.length = s.size := Array.length_toList
  unfold blkC fill
  simp only [List.map_append, List.map_take, List.map_replicate, hs]
  congr 1
  have : nought.data.toList = List.replicate 64 0 := rfl
  rw [this, List.map_replicate, List.drop_replicate]
  congr 1
  omega
set_option maxRecDepth 100000 in
theorem run_copy_fill (w : World) (b : Nat) (s : ByteArray) (hs : s.size ≤ 140737488355328) (h : w.heap[b]? = some (.cells (blkC nought).toArray 122 (0, 0))) : (Builtin.copy_ #[59, 9] 3 #[.slice (some ⟨b, 0, none⟩) 64 64, .string s]).run Tryz.prog w = .ok (.int .i64 ((min 64 s.size : Nat) : Int)) (w.setRow b (blkC (fill s.data.toList)).toArray) := by
  have hA : (blkC nought).toArray.size = 64 := by simp [blkC_len, nought_size]
  have hl : ((blkC s).take 64).length = min 64 s.size := by simp [blkC_len]
  have hst := run_storeCells_at Tryz.prog b 0 122 ((blkC s).take 64) 0 (blkC nought).toArray w h (by rw [hl]; omega) (fun v hv => blkC_one s v (List.mem_of_mem_take hv))
  have hd := Tryz.infoU8
  cases hq : Tryz.prog.info? 5 with
  | none => rw [hq] at hd; cases hd
  | some i =>
    have hi : i.size = 1 := by rw [hq] at hd; simpa using hd
    have hu := Tryz.underlying59
    generalize Tryz.prog = P at *
    rw [hl] at hst
    have e4 : (blkC nought).toArray.toList.take (0 + 0) ++ (blkC s).take 64 ++ (blkC nought).toArray.toList.drop (0 + 0 + min 64 s.size) = blkC (fill s.data.toList) := by rw [fill_cells]; simp
    rw [e4] at hst
    simp [Builtin.copy_, run_underlying hu, Builtin.lenOf, Builtin.firstCells, sizeOf, typeInfo, hq, goInt]
    have e5 : List.take (s.size.min 64) (List.map (fun b => Value.int IntKind.u8 (b.toNat : Int)) s.data.toList) = (blkC s).take 64 := by
      refine List.take_eq_take_iff.2 ?_
      have : (List.map (fun b => Value.int IntKind.u8 (b.toNat : Int)) s.data.toList).length = s.size := by rw [List.length_map]; exact Array.length_toList
      rw [this]
      show min (min s.size 64) s.size = min 64 s.size
      omega
    have e6 : s.size.min 64 = min 64 s.size := by show min s.size 64 = _; omega
    rw [e5, hst, e6]
    rfl
theorem arr_cell {X : World} {b : Nat} {s : ByteArray} (h : X.heap[b]? = some (.cells (blkC s).toArray 122 (0, 0))) (j : Nat) (hj : j < s.data.toList.length) : X.cell? ((⟨b, 0, none⟩ : Addr).add j) = some (.int .u8 ((s.data.toList[j]).toNat : Int)) := by
  rw [Addr.add_mid, Nat.zero_add, cell_of_row X b j _ _ _ h]
  simp only [List.getElem?_toArray, blkC, List.getElem?_map, List.getElem?_eq_getElem hj, Option.map_some]
theorem conv_arr (X : World) (b : Nat) (s : ByteArray) (hs : s.size = 64) (h : X.heap[b]? = some (.cells (blkC s).toArray 122 (0, 0))) : (convert 59 9 (.slice (some ⟨b, 0, none⟩) 64 64)).run Tryz.prog X = .ok (.string s) X := by
  have hl : s.data.toList.length = 64 := by rw [Array.length_toList]; exact hs
  have := run_convert_bytes_back (P := Tryz.prog) X 59 9 5 ⟨b, 0, none⟩ 64 s.data.toList Tryz.underlying59 Tryz.underlying5 Tryz.underlying9 (arr_cell h)
  rw [hl] at this
  rw [this]
set_option maxRecDepth 100000 in
set_option maxHeartbeats 2000000 in
theorem jfilled_any (s : ByteArray) (hs : s.size ≤ 140737488355328) (w : World) :
    Calls Tryz.prog 119 #[.string s] w fun e w' => e = .returned (.string (fill s.data.toList)) ∧ Below w.heap.size w w' := by
  have HC := hide (fun (W : World) (h : W.heap[w.heap.size]? = some (.cells (blkC nought).toArray 122 (0, 0))) => run_copy_fill W w.heap.size s hs h)
  have HV := hide (fun (W : World) (h : W.heap[w.heap.size]? = some (.cells (blkC (fill s.data.toList)).toArray 122 (0, 0))) => conv_arr W w.heap.size (fill s.data.toList) (fill_size _) h)
  have hsz := hide (fill_size s.data.toList)
  generalize fill s.data.toList = f at *
  go_enter Tryz.func119, Tryz.ntmps119
  go_upto_region 2 with fail
  generalize hW : w.alloc _ = W1
  have hb : W1.heap[w.heap.size]? = some (.cells (blkC nought).toArray 122 (0, 0)) := by rw [← hW]; exact heap_alloc_new _ _
  have hbel : Below w.heap.size w W1 := by rw [← hW]; exact bw_alloc _ _
  have hcp := unhide HC W1 hb
  obtain ⟨W2, hW2⟩ : ∃ W2, W2 = W1.setRow w.heap.size (blkC f).toArray := ⟨_, rfl⟩
  rw [← hW2] at hcp
  have hb2 : W2.heap[w.heap.size]? = some (.cells (blkC f).toArray 122 (0, 0)) := by rw [hW2]; exact setRow_heap _ _ _ _ _ _ hb
  have hcv := unhide HV W2 hb2
  have HB : Hid (Below w.heap.size w W2) := by unfold Hid; rw [hW2]; exact below_setRow hbel (Nat.le_refl _) _
  clear hW hb hbel HC HV hb2 hW2
  go_wp2_with fail
  try erw [hcp]
  go_wp2_with fail
  try erw [hcv]
  go_wp2_with fail
  go_ret
  exact ⟨rfl, unhide HB⟩

end Go.Proofs.YtfnpeiikjiffeaaGreat

/- Contracts of package journal: putHighFirst, a head's sector. -/
namespace Go.Proofs.YtfnpeiikjiffeaaGreat
open Go.RowKit Go.Maps

theorem shr_byte (n j : Nat) (h : n < 9223372036854775808) : Go.bits BinOp.and IntKind.i64 ((n : Int) / 2 ^ (8 * j)) 255 = ((n / 256 ^ j % 256 : Nat) : Int) := by
  have e2 : (2 : Int) ^ (8 * j) = ((256 ^ j : Nat) : Int) := by
    have : (256 : Nat) ^ j = 2 ^ (8 * j) := by rw [Nat.pow_mul]
    rw [this, Int.natCast_pow]; rfl
  rw [e2]
  have e3 : (n : Int) / ((256 ^ j : Nat) : Int) = ((n / 256 ^ j : Nat) : Int) := by rw [Int.natCast_ediv]
  rw [e3]
  exact and255 _ (Nat.lt_of_le_of_lt (Nat.div_le_self _ _) h)
theorem mul8_wrap (j : Nat) (h : j < 8) : IntKind.i64.wrap (8 * (j : Int)) = ((8 * j : Nat) : Int) := by rw [wrap_i64 (by omega) (by omega)]; omega
set_option maxRecDepth 100000 in
set_option maxHeartbeats 2000000 in
theorem putHigh_any (b n k : Nat) (sv : Value) (bs : List UInt8) (w : World) (hn : n < 9223372036854775808) (hk : k ≤ 8) (hw : Wi.WR w b sv bs) (hl : bs.length ≤ 1000) :
    Calls Tryz.prog 118 #[.pointer (some ⟨b, 0, none⟩), .int .i64 (n : Int), .int .i64 (k : Int)] w fun e w' => e = .returned (.tuple #[]) ∧ ∃ sv', Wi.WStep w w' b sv sv' (bs ++ be k n) := by
  have H0 : Hid (∃ sv', Wi.WStep w w b sv sv' (bs ++ (be k n).take (k - k))) := ⟨sv, by rw [Nat.sub_self, List.take_zero, List.append_nil]; exact Wi.WStep.refl hw⟩
  have HN := hide (And.intro hn (And.intro hk hl))
  have hk8 : (k : Int) ≤ 8 := by omega
  have hk0 : 0 ≤ (k : Int) := by omega
  clear hn hk hw hl
  go_enter Tryz.func118, Tryz.ntmps118
  go_wp2_with fail
  go_loopw [6] (fun iv wr => ∃ j : Nat, j ≤ k ∧ iv = .int .i64 ((j : Int) - 1) ∧ Hid (∃ sv', Wi.WStep w wr b sv sv' (bs ++ (be k n).take (k - j)))) (fun iv _ => (intOf iv + 1).toNat)
  case atStart => exact ⟨k, by omega, by go_num, H0⟩
  case round =>
    clear H0
    obtain ⟨j, hj, rfl, HR⟩ := hrel
    match j, hj with
    | 0, _ =>
      have HE : Hid (∃ sv', Wi.WStep w wr b sv sv' (bs ++ be k n)) := by
        obtain ⟨sv', h⟩ := unhide HR
        rw [Nat.sub_zero, List.take_of_length_le (by rw [be_len]; exact Nat.le_refl _)] at h
        exact ⟨sv', h⟩
      clear HR
      go_wp2_with fail
      go_end0
      exact ⟨rfl, unhide HE⟩
    | j + 1, hj =>
      have ei : ((j + 1 : Nat) : Int) - 1 = (j : Int) := by omega
      rw [ei]
      obtain ⟨sv', h⟩ := unhide HR
      have hj8 : j < 8 := by have := (unhide HN).2.1; omega
      have sb := shr_byte n j (unhide HN).1
      have m1 := mul8_wrap j hj8
      have m2 : ¬ (((8 * j : Nat) : Int) < 0) := by omega
      have m3 : min (((8 * j : Nat) : Int)).toNat 64 = 8 * j := by omega
      have hv : n / 256 ^ j % 256 < 256 := Nat.mod_lt _ (by decide)
      have KW := Wi.wByte_ok b ((n / 256 ^ j % 256 : Nat) : Int) sv' _ wr (by omega) (by omega) h.wr (by have := (unhide HN).2; simp [be_len]; omega)
      have HS : Hid (∀ w2, (∃ sv2, Wi.WStep wr w2 b sv' sv2 (bs ++ (be k n).take (k - (j + 1)) ++ [UInt8.ofNat ((n / 256 ^ j % 256 : Nat) : Int).toNat])) → ∃ sv', Wi.WStep w w2 b sv sv' (bs ++ (be k n).take (k - j))) := by
        rintro w2 ⟨sv2, h2⟩
        refine ⟨sv2, ?_⟩
        have e : k - j = k - (j + 1) + 1 := by omega
        have e2 : k - 1 - (k - (j + 1)) = j := by omega
        rw [e, be_take_succ k n _ (by omega), e2, ← List.append_assoc]
        simp only [Int.toNat_natCast] at h2
        exact h.trans h2
      have hji : 0 ≤ (j : Int) := by omega
      have hji8 : (j : Int) < 8 := by omega
      clear h HR ei
      generalize ((n / 256 ^ j % 256 : Nat) : Int) = v at *
      go_wp2_with fail
      refine KW.mono ?_
      rintro e w2 ⟨rfl, h2⟩
      have HE := hide (unhide HS w2 h2)
      clear h2 KW HS
      go_wp2_with fail
      go_roundw
      case rel => exact ⟨j, by omega, by go_num, HE⟩
      case measure => simp only [intOf]; omega

theorem wi_below {w w1 w2 : World} {b : Nat} (h : Below w.heap.size w w1) (k : Wi.Fr [b] w1 w2) (hb : w.heap.size ≤ b) : Below w.heap.size w w2 :=
  ⟨k.os.trans h.os, k.tape.trans h.tape, k.output.trans h.output, Nat.le_trans h.size k.size, fun x hx => (k.block x (Nat.lt_of_lt_of_le hx h.size) (by simp; omega)).trans (h.block x hx)⟩
set_option maxRecDepth 100000 in
set_option maxHeartbeats 2000000 in
theorem sector_none (len : Int) (w : World) :
    Calls Tryz.prog 105 #[.agg #[.int .i64 0, .int .i64 len]] w fun e w' => e = .returned (.string nought) ∧ Below w.heap.size w w' := by
  obtain ⟨W0, hW0⟩ : ∃ W0, W0 = w.alloc (.cells #[.int .i64 0, .int .i64 len] 111) := ⟨_, rfl⟩
  have KN := Wi.newWriter_any W0
  obtain ⟨W1, hW1⟩ : ∃ W1, W1 = W0.alloc (.cells #[.bool true, .slice none 0 0] 94) := ⟨_, rfl⟩
  rw [← hW1] at KN
  have hwr : Wi.WR W1 W0.heap.size (.slice none 0 0) [] := by rw [hW1]; exact ⟨heap_alloc_new _ _, World.ownsRow_nil _ _ _ _⟩
  have KB := Wi.wBytes_any W0.heap.size _ _ W1 hwr
  have hb0 : W0.heap[w.heap.size]? = some (.cells #[.int .i64 0, .int .i64 len] 111 (0, 0)) := by rw [hW0]; exact heap_alloc_new _ _
  have hb1 : W1.heap[w.heap.size]? = some (.cells #[.int .i64 0, .int .i64 len] 111 (0, 0)) := by rw [hW1, Below.heap_alloc _ _ _ (lt_of_blk hb0)]; exact hb0
  have c1 : W1.cell? ⟨w.heap.size, 0, none⟩ = some (.int .i64 0) := by simp [World.cell?, hb1]
  have KF := jfilled_any (Wi.str []) (by simp [Wi.str, ByteArray.size]) W1
  have hbel : Hid (Below w.heap.size w W1) := by
    unfold Hid; rw [hW1]
    exact bw_tr (by rw [hW0]; exact bw_alloc _ _) (bw_alloc _ _)
  have ef : fill (Wi.str []).data.toList = nought := rfl
  rw [ef] at KF
  have HW0 := hide hW0
  clear hW1 hwr hb0 hb1 ef
  go_enter Tryz.func105, Tryz.ntmps105
  go_wp2_with fail
  rw [← unhide HW0]
  clear hW0
  refine KN.mono ?_
  rintro e w1 ⟨rfl, rfl⟩
  clear KN
  go_wp2_with fail
  refine KB.mono ?_
  rintro e w1 ⟨rfl, rfl⟩
  clear KB
  go_wp2_with fail
  refine KF.mono ?_
  rintro e w2 ⟨rfl, b2⟩
  have hbb := bw_tr (unhide hbel) b2
  clear KF b2
  go_wp2_with fail
  go_ret
  exact ⟨rfl, hbb⟩
set_option maxRecDepth 100000 in
set_option maxHeartbeats 4000000 in
theorem sector_some (n len : Nat) (h0 : 0 < n) (hn : n < 9223372036854775808) (hl : len < 9223372036854775808) (w : World) :
    Calls Tryz.prog 105 #[.agg #[.int .i64 (n : Int), .int .i64 (len : Int)]] w fun e w' => e = .returned (.string (hd n len)) ∧ Below w.heap.size w w' := by
  obtain ⟨W0, hW0⟩ : ∃ W0, W0 = w.alloc (.cells #[.int .i64 (n : Int), .int .i64 (len : Int)] 111) := ⟨_, rfl⟩
  have KN := Wi.newWriter_any W0
  obtain ⟨W1, hW1⟩ : ∃ W1, W1 = W0.alloc (.cells #[.bool true, .slice none 0 0] 94) := ⟨_, rfl⟩
  rw [← hW1] at KN
  have hwr : Wi.WR W1 W0.heap.size (.slice none 0 0) [] := by rw [hW1]; exact ⟨heap_alloc_new _ _, World.ownsRow_nil _ _ _ _⟩
  have hb0 : W0.heap[w.heap.size]? = some (.cells #[.int .i64 (n : Int), .int .i64 (len : Int)] 111 (0, 0)) := by rw [hW0]; exact heap_alloc_new _ _
  have hb1 : W1.heap[w.heap.size]? = some (.cells #[.int .i64 (n : Int), .int .i64 (len : Int)] 111 (0, 0)) := by rw [hW1, Below.heap_alloc _ _ _ (lt_of_blk hb0)]; exact hb0
  have hlt := lt_of_blk hb0
  have hbel : Below w.heap.size w W1 := by
    rw [hW1]
    exact bw_tr (by rw [hW0]; exact bw_alloc _ _) (bw_alloc _ _)
  have HX : Hid (∀ (W : World) (sv : Value) (bs : List UInt8), Wi.WStep W1 W W0.heap.size (.slice none 0 0) sv bs → W.cell? ⟨w.heap.size, 0, none⟩ = some (.int .i64 (n : Int)) ∧ W.cell? ⟨w.heap.size, 1, none⟩ = some (.int .i64 (len : Int)) ∧ Below w.heap.size w W) := fun W sv bs hs => by
    have hf : Wi.Fr [W0.heap.size] W1 W := hs.fr
    have hb2 : W.heap[w.heap.size]? = _ := (hf.block _ (lt_of_blk hb1) (by simp; omega)).trans hb1
    exact ⟨by simp [World.cell?, hb2], by simp [World.cell?, hb2], wi_below hbel hf (by omega)⟩
  obtain ⟨c0, c1, _⟩ := unhide HX W1 _ _ (Wi.WStep.refl hwr)
  have KM := Wi.wByte_ok W0.heap.size 74 _ _ W1 (by decide) (by decide) hwr (by simp)
  have HW0 := hide hW0
  have HN := hide (And.intro h0 (And.intro hn hl))
  have hpos : 0 < (n : Int) := by omega
  clear hW1 hwr hb0 hb1 hbel hlt h0 hn hl
  go_enter Tryz.func105, Tryz.ntmps105
  go_wp2_with fail
  rw [← unhide HW0]
  clear hW0
  refine KN.mono ?_
  rintro e w1 ⟨rfl, rfl⟩
  clear KN
  go_wp2_with fail
  refine KM.mono ?_
  rintro e w2 ⟨rfl, sv2, h2⟩
  obtain ⟨d0, d1, _⟩ := unhide HX w2 _ _ h2
  have KP := putHigh_any W0.heap.size n 8 sv2 _ w2 (unhide HN).2.1 (by omega) h2.wr (by simp)
  have H2 := hide h2
  clear KM h2 c0 c1
  go_wp2_with fail
  refine KP.mono ?_
  rintro e w3 ⟨rfl, sv3, h3⟩
  have h3' := (unhide H2).trans h3
  obtain ⟨e0, e1, _⟩ := unhide HX w3 _ _ h3'
  have KQ := putHigh_any W0.heap.size len 4 sv3 _ w3 (unhide HN).2.2 (by omega) h3.wr (by simp [be_len])
  have H3 := hide h3'
  clear KP h3 h3' H2 d0 d1
  go_wp2_with fail
  refine KQ.mono ?_
  rintro e w4 ⟨rfl, sv4, h4⟩
  have h4' := (unhide H3).trans h4
  obtain ⟨_, _, hbel⟩ := unhide HX w4 _ _ h4'
  have KB := Wi.wBytes_any W0.heap.size _ _ w4 h4.wr
  have eb : [] ++ [UInt8.ofNat (74 : Int).toNat] ++ be 8 n ++ be 4 len = hdL n len := by
    have : n ≠ 0 := by have := (unhide HN).1; omega
    simp only [hdL, this, if_false]
    rfl
  rw [eb] at KB
  have HB := hide hbel
  clear KQ h4 h4' H3 e0 e1 hbel eb HX
  go_wp2_with fail
  refine KB.mono ?_
  rintro e w4 ⟨rfl, rfl⟩
  clear KB
  have KF := jfilled_any (Wi.str (hdL n len)) (by have := hdL_len n len; simp [Wi.str, ByteArray.size]; omega) w4
  have ef : fill (Wi.str (hdL n len)).data.toList = hd n len := rfl
  rw [ef] at KF
  clear ef
  go_wp2_with fail
  refine KF.mono ?_
  rintro e w5 ⟨rfl, b5⟩
  have hbb := bw_tr (unhide HB) b5
  clear KF b5
  go_wp2_with fail
  go_ret
  exact ⟨rfl, hbb⟩
theorem sector_any (n len : Nat) (hn : n < 9223372036854775808) (hl : len < 9223372036854775808) (w : World) :
    Calls Tryz.prog 105 #[.agg #[.int .i64 (n : Int), .int .i64 (len : Int)]] w fun e w' => e = .returned (.string (hd n len)) ∧ Below w.heap.size w w' := by
  by_cases h : n = 0
  · subst h
    exact sector_none (len : Int) w
  · exact sector_some n len (by omega) hn hl w

end Go.Proofs.YtfnpeiikjiffeaaGreat
