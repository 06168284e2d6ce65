/- Contracts of the Writer's smallest functions: fold, unfold, missing, put. -/
import Derived.Test.YtjoiecphjapbaaaMem
namespace Go.Proofs.Ytjoiecphjapbaaa
open Go.RowKit

theorem ret_int {k : IntKind} {a b : Int} (h : a = b) : Ending.returned (.int k a) = .returned (.int k b) := by rw [h]

def lim : Nat → Nat
  | 0 => 128
  | f + 1 => 128 * lim f
theorem lim_step (f z : Nat) (h : z < lim f) (hz : ¬ z < 128) : ∃ g, f = g + 1 ∧ z / 128 < lim g := by
  cases f with
  | zero => exact absurd h hz
  | succ g => exact ⟨g, rfl, Nat.div_lt_of_lt_mul h⟩
theorem lim9 (z : Nat) (h : z < 18446744073709551616) : z < lim 9 := by
  have e : lim 9 = 1180591620717411303424 := by decide
  omega

set_option maxHeartbeats 400000 in
theorem fold_any (n : Int) (w : World) (h1 : -9223372036854775808 ≤ n) (h2 : n ≤ 9223372036854775807) :
    Calls Try.prog 60 #[.int .i64 n] w fun e w' => e = .returned (.int .u64 (zz n)) ∧ w' = w := by
  go_enter Try.func60, Try.ntmps60
  go_wp2
  go_ret
  exact ⟨ret_int (fold_eq n h1 h2), rfl⟩

set_option maxHeartbeats 400000 in
theorem unfold_any (z : Nat) (w : World) (h : z < 18446744073709551616) :
    Calls Try.prog 56 #[.int .u64 z] w fun e w' => e = .returned (.int .i64 (uz z)) ∧ w' = w := by
  go_enter Try.func56, Try.ntmps56
  go_wp2
  go_ret
  exact ⟨ret_int (unfold_eq z h), rfl⟩

theorem wmiss_nil (w : World) : Calls Try.prog 35 #[.pointer none] w fun e w' => e = .returned (.bool true) ∧ w' = w := by
  go_enter Try.func35, Try.ntmps35
  go_wp2
  go_ret
  exact ⟨rfl, rfl⟩
theorem wmiss_at (w : World) (b : Nat) (m : Bool) (c0 : w.cell? ⟨b, 0, none⟩ = some (.bool m)) :
    Calls Try.prog 35 #[.pointer (some ⟨b, 0, none⟩)] w fun e w' => e = .returned (.bool (!m)) ∧ w' = w := by
  go_enter Try.func35, Try.ntmps35
  go_wp2
  go_ret
  exact ⟨rfl, rfl⟩

set_option maxHeartbeats 400000 in
theorem put_any (b : Nat) (n : Int) (sv : Value) (bs : List UInt8) (w : World) (h1 : -9223372036854775808 ≤ n) (h2 : n ≤ 9223372036854775807) (hw : WR w b sv bs) (hl : bs.length ≤ 1099511627776) :
    Calls Try.prog 52 #[.pointer (some ⟨b, 0, none⟩), .int .i64 n] w fun e w' => e = .returned (.tuple #[]) ∧ ∃ sv', WStep w w' b sv sv' (bs ++ enc n) := by
  obtain ⟨i0, hi, hz0, hz1, hz2⟩ := info_parts Try.infoU8
  have hzl := zz_lt n h1 h2
  go_enter Try.func52, Try.ntmps52
  go_wp2_with (go_at_call 60; refine (fold_any _ _ h1 h2).mono ?_; rintro e w ⟨rfl, rfl⟩)
  go_loopw [4] (fun zv wr => ∃ (z f : Nat) (cur : List UInt8) (sv1 : Value), f ≤ 9 ∧ z < lim f ∧ z < 18446744073709551616 ∧ zv = .int .u64 z ∧ cur.length + f ≤ bs.length + 9 ∧ Hid (cur ++ vbF f z = bs ++ enc n) ∧ WStep w wr b sv sv1 cur) (fun zv _ => (intOf zv).toNat)
  case atStart => exact ⟨zz n, 9, bs, sv, by omega, lim9 _ hzl, hzl, rfl, by omega, by simp [Hid, enc, vb], WStep.refl hw⟩
  case round =>
    obtain ⟨z, f, cur, sv1, hf, hzf, hzb, rfl, hlen, hdn, hst⟩ := hrel
    have c1 := cell1_of_WR hst.wr
    have f1 := froz1_of_WR hst.wr
    have hown := hst.wr.own
    by_cases hz : z < 128
    · go_wp2_with (at_builtin; refine wpList_append_own_at _ rfl (.tmp 28) (.tmp 31) 27 rfl 0 5 i0 (.int .u8 0) 1 1 Try.underlying27 hi hz0 hz1 hz2 rfl (by decide) sv1 cur.length _ rfl (hown.alloc _) ⟨wr.heap.size, 0, none⟩ 1 1 [_] rfl rfl (cell_one_new _ _ _) ?c2 ?c3 ?c4 ?c5 ?nx)
      case c2 => intro u hu; simp at hu; subst hu; rfl
      case c3 => unfold maxLen; omega
      case c4 => omega
      case c5 => omega
      case nx =>
        intro v' w1 hown' hgrow _ hat
        obtain ⟨⟨g, cap, rfl⟩, R1, R2, R3⟩ := hst.wr.stored1 (UInt8.ofNat z) hown' (by simp [B8]; omega) hgrow hat
        clear hown' hgrow hat
        go_wp2
        go_end0
        have R4 := hst.trans R1
        have e4 : cur ++ [UInt8.ofNat z] = bs ++ enc n := by rw [← hdn.out, vbF_small f z hz]
        rw [e4] at R4
        exact ⟨rfl, _, R4⟩
    · go_wp2_with (at_builtin; refine wpList_append_own_at _ rfl (.tmp 13) (.tmp 18) 27 rfl 0 5 i0 (.int .u8 0) 1 1 Try.underlying27 hi hz0 hz1 hz2 rfl (by decide) sv1 cur.length _ rfl (hown.alloc _) ⟨wr.heap.size, 0, none⟩ 1 1 [_] rfl rfl (cell_one_new _ _ _) ?d2 ?d3 ?d4 ?d5 ?ny)
      case d2 => intro u hu; simp at hu; subst hu; rfl
      case d3 => unfold maxLen; omega
      case d4 => omega
      case d5 => omega
      case ny =>
        intro v' w1 hown' hgrow _ hat
        obtain ⟨⟨g, cap, rfl⟩, R1, R2, R3⟩ := hst.wr.stored1 (UInt8.ofNat (z % 128 + 128)) hown' (by rw [B8, byte_more z hzb]) hgrow hat
        obtain ⟨f', rfl, hz'⟩ := lim_step f z hzf hz
        have R4 := hst.trans R1
        clear hown' hgrow hat
        go_wp2
        go_roundw
        case rel => exact ⟨z / 128, f', cur ++ [UInt8.ofNat (z % 128 + 128)], _, by omega, hz', by omega, by go_num, by simp; omega, by unfold Hid; rw [← hdn.out, vbF_big f' z hz]; simp, R4⟩
        case measure => simp [intOf]; omega

end Go.Proofs.Ytjoiecphjapbaaa
