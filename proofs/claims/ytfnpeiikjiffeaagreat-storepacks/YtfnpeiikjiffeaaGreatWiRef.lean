/- Contracts of the document's own answers for writing: zigzag, Number, Byte, Flag, Text, List, and written. -/
import Derived.Test.YtfnpeiikjiffeaaGreatBaA
import Derived.Test.YtfnpeiikjiffeaaGreatBaB
namespace Go.Proofs.YtfnpeiikjiffeaaGreat.Wi
open Go.RowKit

set_option maxRecDepth 100000 in
theorem zig_pos (n : Int) (h0 : 0 ≤ n) : n * 2 = (zz n : Int) := by unfold zz; rw [if_pos h0]; omega
set_option maxRecDepth 100000 in
theorem zig_neg (n : Int) (h0 : n < 0) : -(n + 1) * 2 + 1 = (zz n : Int) := by unfold zz; rw [if_neg (by omega)]; omega

set_option maxHeartbeats 400000 in
set_option maxRecDepth 100000 in
theorem zigzag_any (n : Int) (w : World) (h1 : -9223372036854775808 ≤ n) (h2 : n ≤ 9223372036854775807) :
    Calls Tryz.prog 94 #[.int .i64 n] w fun e w' => e = .returned (.int .u64 (zz n)) ∧ w' = w := by
  by_cases h0 : 0 ≤ n
  · go_enter Tryz.func94, Tryz.ntmps94
    go_wp2
    go_ret
    exact ⟨ret_int (zig_pos n h0), rfl⟩
  · have h0' : n < 0 := by omega
    go_enter Tryz.func94, Tryz.ntmps94
    go_wp2
    go_ret
    exact ⟨ret_int (zig_neg n h0'), rfl⟩

set_option maxRecDepth 100000 in
theorem own_base {w : World} {B : Nat} {e : TypeId} {v : Value} {n : Nat} {xs : List Value} (h : w.ownsRow B e 1 v n xs) : w.ownsRow 0 e 1 v n xs := by
  refine ⟨h.1, ?_⟩
  rcases h.2 with h | ⟨g, cap, cur, hv, _, r⟩
  · exact Or.inl h
  · exact Or.inr ⟨g, cap, cur, hv, Nat.zero_le _, r⟩

set_option maxRecDepth 100000 in
theorem add_empty (x : ByteArray) (hx : x.size ≤ 4611686018427387904) (w : World) : (Op.stringOp .add ⟨#[]⟩ x).run Tryz.prog w = .ok (.string x) w := by
  have e : (⟨#[]⟩ : ByteArray) ++ x = x := by apply ByteArray.ext; simp
  have h0 : (⟨#[]⟩ : ByteArray).size = 0 := rfl
  rw [run_string_add_sum (P := Tryz.prog) w ⟨#[]⟩ x (by omega), e]

set_option maxRecDepth 100000 in
theorem own_snoc {w wr w1 : World} {lv v' x : Value} {cur : List UInt8} {o : Obj} (c : UInt8) (hb : Below w.heap.size w wr) (hown : wr.ownsRow w.heap.size 5 1 lv cur.length (cur.map B8)) (hown' : w1.ownsRow w.heap.size 5 1 v' (cur.length + 1) (cur.map B8 ++ [x])) (hx : x = B8 c)
    (hg : (wr.alloc o).grownBy w1 lv.ownBlock) : w1.ownsRow w.heap.size 5 1 v' (cur ++ [c]).length ((cur ++ [c]).map B8) ∧ Below w.heap.size w w1 := by
  refine ⟨by subst hx; simpa using hown', (hb.alloc hb.size o).grown hg (by have := hb.size; simp; omega) (fun k hk => (hown.lt k hk).1)⟩

set_option maxRecDepth 100000 in
set_option maxHeartbeats 400000 in
set_option maxRecDepth 100000 in
theorem refNumber_any (n : Int) (w : World) (h1 : -9223372036854775808 ≤ n) (h2 : n ≤ 9223372036854775807) :
    Calls Tryz.prog 75 #[.string ⟨#[]⟩, .int .i64 n] w fun e w' => e = .returned (.string (str (enc n))) ∧ Below w.heap.size w w' := by
  obtain ⟨i0, hi, hz0, hz1, hz2⟩ := info_parts Tryz.infoU8
  have hzl := zz_lt n h1 h2
  go_enter Tryz.func75, Tryz.ntmps75
  go_wp2_with (go_at_call 94; refine (zigzag_any _ _ h1 h2).mono ?_; rintro e w ⟨rfl, rfl⟩)
  go_loopw [5, 6] (fun zv lv wr => ∃ (z f : Nat) (cur : List UInt8), f ≤ 9 ∧ z < lim f ∧ z < 18446744073709551616 ∧ zv = .int .u64 z ∧ cur.length + f ≤ 9 ∧ Hid (cur ++ vbF f z = enc n) ∧ wr.ownsRow w.heap.size 5 1 lv cur.length (cur.map B8) ∧ Below w.heap.size w wr) (fun zv _ _ => (intOf zv).toNat)
  case atStart => exact ⟨zz n, 9, [], by omega, lim9 _ hzl, hzl, rfl, by simp, by simp [Hid, enc, vb], World.ownsRow_nil _ _ _ _, Below.refl _ _⟩
  case round =>
    obtain ⟨z, f, cur, hf, hzf, hzb, rfl, hlen, hdn, hown, hbel⟩ := hrel
    have hsz := hbel.size
    by_cases hz : z < 128
    · go_wp2_with (at_builtin; refine wpList_append_own _ rfl (.tmp 20) (.tmp 23) 59 rfl w.heap.size 5 i0 (.int .u8 0) 1 1 Tryz.underlying59 hi hz0 hz1 hz2 rfl (by decide) _ cur.length _ rfl (hown.alloc _) ⟨wr.heap.size, 0, none⟩ 1 1 [_] rfl rfl (cell_one_new _ _ _) ?c2 ?c3 ?c4 ?c5 ?nx)
      case c2 => intro u hu; simp at hu; subst hu; rfl
      case c3 => unfold maxLen; omega
      case c4 => omega
      case c5 => simp; omega
      case nx =>
        intro v' w1 hown' hgrow _
        obtain ⟨R1, R2⟩ := own_snoc (UInt8.ofNat z) hbel hown hown' (by simp [B8]; omega) hgrow
        clear hown' hgrow
        have e4 : cur ++ [UInt8.ofNat z] = enc n := by rw [← hdn.out, vbF_small f z hz]
        rw [e4] at R1
        have hc := convert_own (own_base R1)
        have hadd := add_empty (str (enc n)) (by have := (enc_length n).2; rw [size_str]; omega)
        go_wp2
        go_ret
        exact ⟨rfl, R2⟩
    · go_wp2_with (at_builtin; refine wpList_append_own _ rfl (.tmp 11) (.tmp 16) 59 rfl w.heap.size 5 i0 (.int .u8 0) 1 1 Tryz.underlying59 hi hz0 hz1 hz2 rfl (by decide) _ cur.length _ rfl (hown.alloc _) ⟨wr.heap.size, 0, none⟩ 1 1 [_] rfl rfl (cell_one_new _ _ _) ?d2 ?d3 ?d4 ?d5 ?ny)
      case d2 => intro u hu; simp at hu; subst hu; rfl
      case d3 => unfold maxLen; omega
      case d4 => omega
      case d5 => simp; omega
      case ny =>
        intro v' w1 hown' hgrow _
        obtain ⟨R1, R2⟩ := own_snoc (UInt8.ofNat (z % 128 + 128)) hbel hown hown' (by simp [B8]; omega) hgrow
        obtain ⟨f', rfl, hz'⟩ := lim_step f z hzf hz
        clear hown' hgrow
        go_wp2
        go_roundw
        case rel => exact ⟨z / 128, f', cur ++ [UInt8.ofNat (z % 128 + 128)], by omega, hz', by omega, by go_num, by simp; omega, by unfold Hid; rw [← hdn.out, vbF_big f' z hz]; simp, R1, R2⟩
        case measure => simp [intOf]; omega

set_option maxRecDepth 100000 in
theorem one_own (w : World) (c : UInt8) : (w.alloc (.cells #[B8 c] 5)).ownsRow 0 5 1 (.slice (some ⟨w.heap.size, 0, none⟩) 1 1) [c].length ([c].map B8) :=
  ⟨rfl, Or.inr ⟨w.heap.size, 1, #[B8 c], rfl, Nat.zero_le _, heap_alloc_new w _, Nat.le_refl _, by unfold maxLen; omega, rfl, rfl⟩⟩

set_option maxHeartbeats 400000 in
set_option maxRecDepth 100000 in
theorem refText_bad (s : ByteArray) (w : World) (h : 65536 < s.size) :
    Calls Tryz.prog 55 #[.string ⟨#[]⟩, .string s] w fun e w' => e = .returned (.tuple #[.string ⟨#[]⟩, .int .i64 3]) ∧ Below w.heap.size w w' := by
  go_enter Tryz.func55, Tryz.ntmps55
  go_wp2
  go_ret2
  exact ⟨rfl, Below.refl _ _⟩
set_option maxRecDepth 100000 in
theorem str_add (a : List UInt8) (s : ByteArray) : str a ++ s = str (a ++ s.data.toList) := by
  apply ByteArray.ext; simp [str]
set_option maxHeartbeats 400000 in
set_option maxRecDepth 100000 in
theorem refText_ok (s : ByteArray) (w : World) (h : s.size ≤ 65536) :
    Calls Tryz.prog 55 #[.string ⟨#[]⟩, .string s] w fun e w' => e = .returned (.tuple #[.string (str (enc s.size ++ s.data.toList)), .int .i64 0]) ∧ Below w.heap.size w w' := by
  have hadd : ∀ w, (Op.stringOp .add (str (enc s.size)) s).run Tryz.prog w = .ok (.string (str (enc s.size ++ s.data.toList))) w := fun w => by
    have := (enc_length s.size).2
    rw [run_string_add_sum (P := Tryz.prog) w _ _ (by rw [size_str]; omega), str_add]
  have K := refNumber_any (s.size : Nat) w (by omega) (by omega)
  go_enter Tryz.func55, Tryz.ntmps55
  go_wp2_with (go_at_call 75; refine K.mono ?_; rintro e w1 ⟨rfl, hb⟩)
  go_ret2
  exact ⟨rfl, hb⟩
set_option maxHeartbeats 400000 in
set_option maxRecDepth 100000 in
theorem refList_low (n : Int) (w : World) (h : n < 0) :
    Calls Tryz.prog 54 #[.string ⟨#[]⟩, .int .i64 n] w fun e w' => e = .returned (.tuple #[.string ⟨#[]⟩, .int .i64 1]) ∧ Below w.heap.size w w' := by
  go_enter Tryz.func54, Tryz.ntmps54
  go_wp2
  go_ret2
  exact ⟨rfl, Below.refl _ _⟩
set_option maxHeartbeats 400000 in
set_option maxRecDepth 100000 in
theorem refList_high (n : Int) (w : World) (h : 65536 < n) :
    Calls Tryz.prog 54 #[.string ⟨#[]⟩, .int .i64 n] w fun e w' => e = .returned (.tuple #[.string ⟨#[]⟩, .int .i64 3]) ∧ Below w.heap.size w w' := by
  go_enter Tryz.func54, Tryz.ntmps54
  go_wp2
  go_ret2
  exact ⟨rfl, Below.refl _ _⟩
set_option maxHeartbeats 400000 in
set_option maxRecDepth 100000 in
theorem refList_ok (n : Int) (w : World) (h0 : 0 ≤ n) (h : n ≤ 65536) :
    Calls Tryz.prog 54 #[.string ⟨#[]⟩, .int .i64 n] w fun e w' => e = .returned (.tuple #[.string (str (enc n)), .int .i64 0]) ∧ Below w.heap.size w w' := by
  have K := refNumber_any n w (by omega) (by omega)
  go_enter Tryz.func54, Tryz.ntmps54
  go_wp2_with (go_at_call 75; refine K.mono ?_; rintro e w1 ⟨rfl, hb⟩)
  go_ret2
  exact ⟨rfl, hb⟩
end Go.Proofs.YtfnpeiikjiffeaaGreat.Wi
