/- Contracts of package journal: putHighFirst, a head's sector. -/
import Derived.Test.YtimhjheigejjmabJnB
import Derived.Test.YtimhjheigejjmabWiWrB
namespace Go.Proofs.Ytimhjheigejjmab
open Go.RowKit Go.Maps

theorem shr_byte (n j : Nat) (h : n < 9223372036854775808) : Go.bits BinOp.and IntKind.i64 ((n : Int) / 2 ^ (8 * j)) 255 = ((n / 256 ^ j % 256 : Nat) : Int) := by
  have e2 : (2 : Int) ^ (8 * j) = ((256 ^ j : Nat) : Int) := by
    have : (256 : Nat) ^ j = 2 ^ (8 * j) := by rw [Nat.pow_mul]
    rw [this, Int.natCast_pow]; rfl
  rw [e2]
  have e3 : (n : Int) / ((256 ^ j : Nat) : Int) = ((n / 256 ^ j : Nat) : Int) := by rw [Int.natCast_ediv]
  rw [e3]
  exact and255 _ (Nat.lt_of_le_of_lt (Nat.div_le_self _ _) h)
theorem mul8_wrap (j : Nat) (h : j < 8) : IntKind.i64.wrap (8 * (j : Int)) = ((8 * j : Nat) : Int) := by rw [wrap_i64 (by omega) (by omega)]; omega
set_option maxRecDepth 100000 in
set_option maxHeartbeats 2000000 in
theorem putHigh_any (b n k : Nat) (sv : Value) (bs : List UInt8) (w : World) (hn : n < 9223372036854775808) (hk : k ≤ 8) (hw : Wi.WR w b sv bs) (hl : bs.length ≤ 1000) :
    Calls Try.prog 91 #[.pointer (some ⟨b, 0, none⟩), .int .i64 (n : Int), .int .i64 (k : Int)] w fun e w' => e = .returned (.tuple #[]) ∧ ∃ sv', Wi.WStep w w' b sv sv' (bs ++ be k n) := by
  have H0 : Hid (∃ sv', Wi.WStep w w b sv sv' (bs ++ (be k n).take (k - k))) := ⟨sv, by rw [Nat.sub_self, List.take_zero, List.append_nil]; exact Wi.WStep.refl hw⟩
  have HN := hide (And.intro hn (And.intro hk hl))
  have hk8 : (k : Int) ≤ 8 := by omega
  have hk0 : 0 ≤ (k : Int) := by omega
  clear hn hk hw hl
  go_enter Try.func91, Try.ntmps91
  go_wp2_with fail
  go_loopw [6] (fun iv wr => ∃ j : Nat, j ≤ k ∧ iv = .int .i64 ((j : Int) - 1) ∧ Hid (∃ sv', Wi.WStep w wr b sv sv' (bs ++ (be k n).take (k - j)))) (fun iv _ => (intOf iv + 1).toNat)
  case atStart => exact ⟨k, by omega, by go_num, H0⟩
  case round =>
    clear H0
    obtain ⟨j, hj, rfl, HR⟩ := hrel
    match j, hj with
    | 0, _ =>
      have HE : Hid (∃ sv', Wi.WStep w wr b sv sv' (bs ++ be k n)) := by
        obtain ⟨sv', h⟩ := unhide HR
        rw [Nat.sub_zero, List.take_of_length_le (by rw [be_len]; exact Nat.le_refl _)] at h
        exact ⟨sv', h⟩
      clear HR
      go_wp2_with fail
      go_end0
      exact ⟨rfl, unhide HE⟩
    | j + 1, hj =>
      have ei : ((j + 1 : Nat) : Int) - 1 = (j : Int) := by omega
      rw [ei]
      obtain ⟨sv', h⟩ := unhide HR
      have hj8 : j < 8 := by have := (unhide HN).2.1; omega
      have sb := shr_byte n j (unhide HN).1
      have m1 := mul8_wrap j hj8
      have m2 : ¬ (((8 * j : Nat) : Int) < 0) := by omega
      have m3 : min (((8 * j : Nat) : Int)).toNat 64 = 8 * j := by omega
      have hv : n / 256 ^ j % 256 < 256 := Nat.mod_lt _ (by decide)
      have KW := Wi.wByte_ok b ((n / 256 ^ j % 256 : Nat) : Int) sv' _ wr (by omega) (by omega) h.wr (by have := (unhide HN).2; simp [be_len]; omega)
      have HS : Hid (∀ w2, (∃ sv2, Wi.WStep wr w2 b sv' sv2 (bs ++ (be k n).take (k - (j + 1)) ++ [UInt8.ofNat ((n / 256 ^ j % 256 : Nat) : Int).toNat])) → ∃ sv', Wi.WStep w w2 b sv sv' (bs ++ (be k n).take (k - j))) := by
        rintro w2 ⟨sv2, h2⟩
        refine ⟨sv2, ?_⟩
        have e : k - j = k - (j + 1) + 1 := by omega
        have e2 : k - 1 - (k - (j + 1)) = j := by omega
        rw [e, be_take_succ k n _ (by omega), e2, ← List.append_assoc]
        simp only [Int.toNat_natCast] at h2
        exact h.trans h2
      have hji : 0 ≤ (j : Int) := by omega
      have hji8 : (j : Int) < 8 := by omega
      clear h HR ei
      generalize ((n / 256 ^ j % 256 : Nat) : Int) = v at *
      go_wp2_with fail
      refine KW.mono ?_
      rintro e w2 ⟨rfl, h2⟩
      have HE := hide (unhide HS w2 h2)
      clear h2 KW HS
      go_wp2_with fail
      go_roundw
      case rel => exact ⟨j, by omega, by go_num, HE⟩
      case measure => simp only [intOf]; omega

theorem wi_below {w w1 w2 : World} {b : Nat} (h : Below w.heap.size w w1) (k : Wi.Fr [b] w1 w2) (hb : w.heap.size ≤ b) : Below w.heap.size w w2 :=
  ⟨k.os.trans h.os, k.tape.trans h.tape, k.output.trans h.output, Nat.le_trans h.size k.size, fun x hx => (k.block x (Nat.lt_of_lt_of_le hx h.size) (by simp; omega)).trans (h.block x hx)⟩
set_option maxRecDepth 100000 in
set_option maxHeartbeats 2000000 in
theorem sector_none (len : Int) (w : World) :
    Calls Try.prog 81 #[.agg #[.int .i64 0, .int .i64 len]] w fun e w' => e = .returned (.string nought) ∧ Below w.heap.size w w' := by
  obtain ⟨W0, hW0⟩ : ∃ W0, W0 = w.alloc (.cells #[.int .i64 0, .int .i64 len] 89) := ⟨_, rfl⟩
  have KN := Wi.newWriter_any W0
  obtain ⟨W1, hW1⟩ : ∃ W1, W1 = W0.alloc (.cells #[.bool true, .slice none 0 0] 137) := ⟨_, rfl⟩
  rw [← hW1] at KN
  have hwr : Wi.WR W1 W0.heap.size (.slice none 0 0) [] := by rw [hW1]; exact ⟨heap_alloc_new _ _, World.ownsRow_nil _ _ _ _⟩
  have KB := Wi.wBytes_any W0.heap.size _ _ W1 hwr
  have hb0 : W0.heap[w.heap.size]? = some (.cells #[.int .i64 0, .int .i64 len] 89 (0, 0)) := by rw [hW0]; exact heap_alloc_new _ _
  have hb1 : W1.heap[w.heap.size]? = some (.cells #[.int .i64 0, .int .i64 len] 89 (0, 0)) := by rw [hW1, Below.heap_alloc _ _ _ (lt_of_blk hb0)]; exact hb0
  have c1 : W1.cell? ⟨w.heap.size, 0, none⟩ = some (.int .i64 0) := by simp [World.cell?, hb1]
  have KF := jfilled_any (Wi.str []) (by simp [Wi.str, ByteArray.size]) W1
  have hbel : Hid (Below w.heap.size w W1) := by
    unfold Hid; rw [hW1]
    exact bw_tr (by rw [hW0]; exact bw_alloc _ _) (bw_alloc _ _)
  have ef : fill (Wi.str []).data.toList = nought := rfl
  rw [ef] at KF
  have HW0 := hide hW0
  clear hW1 hwr hb0 hb1 ef
  go_enter Try.func81, Try.ntmps81
  go_wp2_with fail
  rw [← unhide HW0]
  clear hW0
  refine KN.mono ?_
  rintro e w1 ⟨rfl, rfl⟩
  clear KN
  go_wp2_with fail
  refine KB.mono ?_
  rintro e w1 ⟨rfl, rfl⟩
  clear KB
  go_wp2_with fail
  refine KF.mono ?_
  rintro e w2 ⟨rfl, b2⟩
  have hbb := bw_tr (unhide hbel) b2
  clear KF b2
  go_wp2_with fail
  go_ret
  exact ⟨rfl, hbb⟩
set_option maxRecDepth 100000 in
set_option maxHeartbeats 4000000 in
theorem sector_some (n len : Nat) (h0 : 0 < n) (hn : n < 9223372036854775808) (hl : len < 9223372036854775808) (w : World) :
    Calls Try.prog 81 #[.agg #[.int .i64 (n : Int), .int .i64 (len : Int)]] w fun e w' => e = .returned (.string (hd n len)) ∧ Below w.heap.size w w' := by
  obtain ⟨W0, hW0⟩ : ∃ W0, W0 = w.alloc (.cells #[.int .i64 (n : Int), .int .i64 (len : Int)] 89) := ⟨_, rfl⟩
  have KN := Wi.newWriter_any W0
  obtain ⟨W1, hW1⟩ : ∃ W1, W1 = W0.alloc (.cells #[.bool true, .slice none 0 0] 137) := ⟨_, rfl⟩
  rw [← hW1] at KN
  have hwr : Wi.WR W1 W0.heap.size (.slice none 0 0) [] := by rw [hW1]; exact ⟨heap_alloc_new _ _, World.ownsRow_nil _ _ _ _⟩
  have hb0 : W0.heap[w.heap.size]? = some (.cells #[.int .i64 (n : Int), .int .i64 (len : Int)] 89 (0, 0)) := by rw [hW0]; exact heap_alloc_new _ _
  have hb1 : W1.heap[w.heap.size]? = some (.cells #[.int .i64 (n : Int), .int .i64 (len : Int)] 89 (0, 0)) := by rw [hW1, Below.heap_alloc _ _ _ (lt_of_blk hb0)]; exact hb0
  have hlt := lt_of_blk hb0
  have hbel : Below w.heap.size w W1 := by
    rw [hW1]
    exact bw_tr (by rw [hW0]; exact bw_alloc _ _) (bw_alloc _ _)
  have HX : Hid (∀ (W : World) (sv : Value) (bs : List UInt8), Wi.WStep W1 W W0.heap.size (.slice none 0 0) sv bs → W.cell? ⟨w.heap.size, 0, none⟩ = some (.int .i64 (n : Int)) ∧ W.cell? ⟨w.heap.size, 1, none⟩ = some (.int .i64 (len : Int)) ∧ Below w.heap.size w W) := fun W sv bs hs => by
    have hf : Wi.Fr [W0.heap.size] W1 W := hs.fr
    have hb2 : W.heap[w.heap.size]? = _ := (hf.block _ (lt_of_blk hb1) (by simp; omega)).trans hb1
    exact ⟨by simp [World.cell?, hb2], by simp [World.cell?, hb2], wi_below hbel hf (by omega)⟩
  obtain ⟨c0, c1, _⟩ := unhide HX W1 _ _ (Wi.WStep.refl hwr)
  have KM := Wi.wByte_ok W0.heap.size 74 _ _ W1 (by decide) (by decide) hwr (by simp)
  have HW0 := hide hW0
  have HN := hide (And.intro h0 (And.intro hn hl))
  have hpos : 0 < (n : Int) := by omega
  clear hW1 hwr hb0 hb1 hbel hlt h0 hn hl
  go_enter Try.func81, Try.ntmps81
  go_wp2_with fail
  rw [← unhide HW0]
  clear hW0
  refine KN.mono ?_
  rintro e w1 ⟨rfl, rfl⟩
  clear KN
  go_wp2_with fail
  refine KM.mono ?_
  rintro e w2 ⟨rfl, sv2, h2⟩
  obtain ⟨d0, d1, _⟩ := unhide HX w2 _ _ h2
  have KP := putHigh_any W0.heap.size n 8 sv2 _ w2 (unhide HN).2.1 (by omega) h2.wr (by simp)
  have H2 := hide h2
  clear KM h2 c0 c1
  go_wp2_with fail
  refine KP.mono ?_
  rintro e w3 ⟨rfl, sv3, h3⟩
  have h3' := (unhide H2).trans h3
  obtain ⟨e0, e1, _⟩ := unhide HX w3 _ _ h3'
  have KQ := putHigh_any W0.heap.size len 4 sv3 _ w3 (unhide HN).2.2 (by omega) h3.wr (by simp [be_len])
  have H3 := hide h3'
  clear KP h3 h3' H2 d0 d1
  go_wp2_with fail
  refine KQ.mono ?_
  rintro e w4 ⟨rfl, sv4, h4⟩
  have h4' := (unhide H3).trans h4
  obtain ⟨_, _, hbel⟩ := unhide HX w4 _ _ h4'
  have KB := Wi.wBytes_any W0.heap.size _ _ w4 h4.wr
  have eb : [] ++ [UInt8.ofNat (74 : Int).toNat] ++ be 8 n ++ be 4 len = hdL n len := by
    have : n ≠ 0 := by have := (unhide HN).1; omega
    simp only [hdL, this, if_false]
    rfl
  rw [eb] at KB
  have HB := hide hbel
  clear KQ h4 h4' H3 e0 e1 hbel eb HX
  go_wp2_with fail
  refine KB.mono ?_
  rintro e w4 ⟨rfl, rfl⟩
  clear KB
  have KF := jfilled_any (Wi.str (hdL n len)) (by have := hdL_len n len; simp [Wi.str, ByteArray.size]; omega) w4
  have ef : fill (Wi.str (hdL n len)).data.toList = hd n len := rfl
  rw [ef] at KF
  clear ef
  go_wp2_with fail
  refine KF.mono ?_
  rintro e w5 ⟨rfl, b5⟩
  have hbb := bw_tr (unhide HB) b5
  clear KF b5
  go_wp2_with fail
  go_ret
  exact ⟨rfl, hbb⟩
theorem sector_any (n len : Nat) (hn : n < 9223372036854775808) (hl : len < 9223372036854775808) (w : World) :
    Calls Try.prog 81 #[.agg #[.int .i64 (n : Int), .int .i64 (len : Int)]] w fun e w' => e = .returned (.string (hd n len)) ∧ Below w.heap.size w w' := by
  by_cases h : n = 0
  · subst h
    exact sector_none (len : Int) w
  · exact sector_some n len (by omega) hn hl w

end Go.Proofs.Ytimhjheigejjmab
