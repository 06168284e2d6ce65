/- alive: what is so of whoever does something at all. -/
import Derived.Test.YtimhjheigejjmabDkI
import Derived.Test.YtimhjheigejjmabDkH
namespace Go.Proofs.Ytimhjheigejjmab
open Go.RowKit Go.Maps

theorem fln_zero : fln 0 = 64 := by decide
theorem fate_two : fate 2 0 = 2 := by decide
/-- The disks of alive, one behind the other. -/
def al1 (a : ByteArray) : DS := ((DS.new 2).put 0 a).did
def al2 (a : ByteArray) : DS := (al1 a).settle.did
def al3 (a b : ByteArray) : DS := ((al2 a).put 0 b).did
def al4 (a b : ByteArray) : DS := (al3 a b).fall 2
def al5 (a b : ByteArray) : DS := { al4 a b with up := true, cut := none }
theorem al_w1 {a : ByteArray} (h : a.size = 64) : (DS.new 2).write 0 a = (al1 a, 0) := by
  simp [DS.write, DS.new, h, DS.come, al1]
theorem al_s2 (a : ByteArray) : (al1 a).sync = (al2 a, 0) := by
  simp [DS.sync, al1, al2, DS.put, DS.did, DS.new, DS.come, DS.settle]
theorem al_w3 (a : ByteArray) {b : ByteArray} (h : b.size = 64) : (al2 a).write 0 b = (al3 a b, 0) := by
  simp [DS.write, al1, al2, al3, DS.put, DS.did, DS.new, DS.come, DS.settle, h]
theorem al_c4 (a b : ByteArray) : (al3 a b).crash 2 = (al4 a b, 0) := by
  simp [DS.crash, al1, al2, al3, al4, DS.put, DS.did, DS.new, DS.settle]
theorem al_s5 (a b : ByteArray) : (al4 a b).start = (al5 a b, 0) := by
  simp [DS.start, al4, al5, DS.fall]
theorem al_r6 (a b : ByteArray) : (al5 a b).read 0 = (b.extract 0 32 ++ a.extract 32 64, 0) := by
  have e : (al5 a b).now 0 = b.extract 0 32 ++ a.extract 32 64 := by
    simp [DS.now, al5, al4, al3, al2, al1, DS.fall, DS.put, DS.did, DS.settle, DS.new, cur, fl, upd, fate_two, torn]
  have hu : (al5 a b).up = true := rfl
  have hN : ((al5 a b).N : Int) = 2 := rfl
  simp [DS.read, hu, hN, e]
theorem al_cnt (a b : ByteArray) : (al5 a b).cnt = 3 := rfl

set_option maxRecDepth 100000 in
set_option maxHeartbeats 8000000 in
theorem alive5_any (w : World) : Calls Try.prog 11 #[] w fun e w' => e = .returned (.bool true) ∧ Below w.heap.size w w' := by
  have KN := new_any 2 w (by decide) (by decide)
  have K97 : Hid (∀ W : World, Calls Try.prog 35 #[.int .u8 97, .int .i64 0] W fun e w' => e = .returned (.string (fil 97 64)) ∧ Below W.heap.size W w') := fun W => by have := filled_any 97 0 (by decide) (by decide) W; rw [fln_zero] at this; exact this
  have K98 : Hid (∀ W : World, Calls Try.prog 35 #[.int .u8 98, .int .i64 0] W fun e w' => e = .returned (.string (fil 98 64)) ∧ Below W.heap.size W w') := fun W => by have := filled_any 98 0 (by decide) (by decide) W; rw [fln_zero] at this; exact this
  have ha := fil_size 97 64
  have hb := fil_size 98 64
  generalize fil 97 64 = a at *
  generalize fil 98 64 = b at *
  go_enter Try.func11, Try.ntmps11
  go_wp2_with fail
  refine KN.mono ?_
  rintro e w1 ⟨d, Z, rfl, h1, b1, p1⟩
  have E1 : Env w w1 [resD d (DS.new 2) Z] := (Env.nil w).add (resD d (DS.new 2) Z) b1 h1 p1
  clear KN h1 b1 p1
  unfold ptr
  go_wp2_with fail
  refine (unhide K97 _).mono ?_
  rintro e w2 ⟨rfl, b2⟩
  have E2 := E1.new b2
  have KW := write_any (E2.hd : DkS w2 d (DS.new 2) Z) (by decide) (by decide) 0 a (by omega)
  rw [al_w1 ha] at KW
  clear E1 b2
  unfold ptr at KW
  go_wp2_with fail
  refine KW.mono ?_
  rintro e w3 ⟨rfl, Z3, h3, m3⟩
  have E3 : Env w w3 [resD d (al1 a) Z3] := E2.step (r' := resD d (al1 a) Z3) m3 h3
  clear KW h3 m3 E2
  have KS := sync_any (E3.hd : DkS w3 d (al1 a) Z3) (by show 1 < _; decide)
  rw [al_s2] at KS
  unfold ptr at KS
  go_wp2_with fail
  refine KS.mono ?_
  rintro e w4 ⟨rfl, Z4, h4, m4⟩
  have E4 : Env w w4 [resD d (al2 a) Z4] := E3.step (r' := resD d (al2 a) Z4) m4 h4
  clear KS h4 m4 E3
  go_wp2_with fail
  refine (unhide K98 _).mono ?_
  rintro e w5 ⟨rfl, b5⟩
  have E5 := E4.new b5
  clear E4 b5
  have KW := write_any (E5.hd : DkS w5 d (al2 a) Z4) (by show 2 < _; decide) (by show 0 < _; decide) 0 b (by omega)
  rw [al_w3 a hb] at KW
  unfold ptr at KW
  go_wp2_with fail
  refine KW.mono ?_
  rintro e w6 ⟨rfl, Z6, h6, m6⟩
  have E6 : Env w w6 [resD d (al3 a b) Z6] := E5.step (r' := resD d (al3 a b) Z6) m6 h6
  clear KW h6 m6 E5
  have KC := crash_any (E6.hd : DkS w6 d (al3 a b) Z6) 2
  rw [al_c4] at KC
  unfold ptr at KC
  go_wp2_with fail
  refine KC.mono ?_
  rintro e w7 ⟨rfl, Z7, h7, m7⟩
  have E7 : Env w w7 [resD d (al4 a b) Z7] := E6.step (r' := resD d (al4 a b) Z7) m7 h7
  clear KC h7 m7 E6
  have KT := start_any (E7.hd : DkS w7 d (al4 a b) Z7)
  rw [al_s5] at KT
  unfold ptr at KT
  go_wp2_with fail
  refine KT.mono ?_
  rintro e w8 ⟨rfl, Z8, h8, m8⟩
  have E8 : Env w w8 [resD d (al5 a b) Z8] := E7.step (r' := resD d (al5 a b) Z8) m8 h8
  clear KT h8 m8 E7
  have KR := read_any (E8.hd : DkS w8 d (al5 a b) Z8) 0
  rw [al_r6] at KR
  unfold ptr at KR
  go_wp2_with fail
  refine KR.mono ?_
  rintro e w9 ⟨rfl, b9⟩
  have E9 := E8.new b9
  clear KR b9 E8
  have HD : Hid (∀ W : World, Below w9.drew.heap.size w9.drew W → Calls Try.prog 19 #[.pointer (some ⟨d, 0, none⟩)] W fun e w' => e = .returned (.int .i64 3) ∧ w' = W) := fun W hW => by
    have hd : DkS w9 d (al5 a b) Z8 := E9.hd
    have := count_any ((hd.keep ((Fr.refl [] w9).drew) (by simp)).bw hW)
    exact this
  have HB : Hid (∀ W : World, Below w9.drew.heap.size w9.drew W → Below w.heap.size w W) := fun W hW => bw_tr E9.bel ⟨hW.os, hW.tape, hW.output, hW.size, hW.block⟩
  have bz : Below w9.drew.heap.size w9.drew w9.drew := Below.refl _ _
  clear E9
  have ha2 : ((a.size : Nat) : Int) = 64 := by omega
  have hb2 : ((b.size : Nat) : Int) = 64 := by omega
  go_wp2_with fail
  go_region_held3 (fun _ : World => True) (trivial) (first
    | (go_at_call 19; with_reducible refine (unhide HD _ (bw_tr b1 b2)).mono ?_; rintro e z3 ⟨rfl, rfl⟩)
    | (go_at_call 35; first
      | (with_reducible refine (unhide K97 z1).mono ?_; rintro e z2 ⟨rfl, b2⟩)
      | (with_reducible refine (unhide K98 z1).mono ?_; rintro e z2 ⟨rfl, b2⟩)
      | (with_reducible refine (unhide K97 _).mono ?_; rintro e z1 ⟨rfl, b1⟩)
      | (with_reducible refine (unhide K98 _).mono ?_; rintro e z1 ⟨rfl, b1⟩)))
  all_goals
    go_wp2_with fail
    go_ret
    exact ⟨rfl, unhide HB _ (bw_tr b1 b2)⟩

end Go.Proofs.Ytimhjheigejjmab
