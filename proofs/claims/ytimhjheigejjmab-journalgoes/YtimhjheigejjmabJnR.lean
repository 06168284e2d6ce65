/- layer 6's alive. -/
import Derived.Test.YtimhjheigejjmabJnQ
import Derived.Test.YtimhjheigejjmabDkN
import Derived.Laws.OwnMore
namespace Go.Proofs.Ytimhjheigejjmab
open Go.RowKit Go.Maps

def abc : ByteArray := ⟨#[97, 98, 99]⟩
def zs (m : Nat) : ByteArray := ⟨(List.replicate m (0 : UInt8)).toArray⟩
theorem zs_size (m : Nat) : (zs m).size = m := by simp [zs, ByteArray.size]
theorem good_open {w W : World} {d : Nat} {S : DS} {rs : List Res} (h : ED w W d S rs) {n : Nat} {t : ByteArray} (hg : Good S n t) :
    Calls Try.prog 21 #[.pointer (some ⟨d, 0, none⟩)] W fun e W' => ∃ jb, e = .returned (.tuple #[.pointer (some ⟨jb, 0, none⟩), .int .i64 0]) ∧ ED w W' d S (jr jb d n t false :: rs) := by
  obtain ⟨n0, l0, n1, l1, hh, e1, e2⟩ := hg.heads
  refine (open_any h hh).mono ?_
  rintro e W' ⟨jb, rfl, hE, -⟩
  rw [e1, e2, hg.tx] at hE
  exact ⟨jb, rfl, hE⟩
theorem good_put {w W : World} {d : Nat} {S : DS} {rs : List Res} {jb n : Nat} {t : ByteArray} (h : ED w W d S (jr jb d n t false :: rs)) (hsol : ∀ r ∈ rs, Solid r) (hg : Good S n t) (hc : S.cut = none) (hn : n < 1000000) (s : ByteArray) (hs : s.size ≤ room6 S) (hcnt : S.cnt ≤ 1000000) :
    Calls Try.prog 22 #[.pointer (some ⟨jb, 0, none⟩), .string s] W fun e W' => ∃ S', e = .returned (.int .i64 0) ∧ Good S' (n + 1) s ∧ S'.cut = none ∧ S'.cnt = S.cnt + costN s.size ∧ S'.N = S.N ∧ ED w W' d S' (jr jb d (n + 1) s false :: rs) := by
  refine (Put_go h hsol hg.up hg.N4 (by omega) s hs hcnt (by rw [hg.sn]; simp)).mono ?_
  rintro e W' ⟨S', x, rfl, hv, hE⟩
  obtain ⟨rfl, g1, g2, g3, g4⟩ := hg.putPlain hc hn hs hv
  exact ⟨S', rfl, g1, g2, g3, g4, hE⟩
set_option maxRecDepth 100000 in
set_option maxHeartbeats 4000000 in
theorem j6alive_any (w : World) : Calls Try.prog 17 #[] w fun e w' => e = .returned (.bool true) ∧ Below w.heap.size w w' := by
  have K1 := hide (ED.start (Env.nil w) 6 (by omega) (by omega))
  go_enter Try.func17, Try.ntmps17
  go_wp2_with fail
  refine (unhide K1).mono ?_
  rintro e W1 ⟨d, rfl, E1⟩
  have K2 := hide (good_open E1 (good_new (by omega)))
  clear K1 E1
  go_wp2_with fail
  refine (unhide K2).mono ?_
  rintro e W2 ⟨jb, rfl, E2⟩
  have K3 := hide (good_put E2 (by simp) (good_new (by omega)) rfl (by omega) abc (by decide) (by decide))
  clear K2 E2
  unfold abc at K3
  go_wp2_with fail
  refine (unhide K3).mono ?_
  rintro e W3 ⟨S', rfl, g1, g2, g3, g4, E3⟩
  have K4 := hide (good_open E3 g1)
  have HS := hide (And.intro g1 g4)
  clear K3 E3 g1 g2 g3 g4
  go_wp2_with fail
  refine (unhide K4).mono ?_
  rintro e W4 ⟨kb, rfl, E4⟩
  have hup := (unhide HS).1.up
  have hSN : S'.N = 6 := (unhide HS).2
  have K5 := hide (get_any E4)
  rw [if_neg (by simp [hup]), if_neg (by simp [hup])] at K5
  have K6 := hide (cost_any 65 W4 (by omega))
  have K7 := hide (jseq_any E4)
  have K8 := hide (jRoom_any E4 (by omega))
  rw [hSN] at K8
  have K9 := hide (fun X (hX : Below W4.heap.size W4 X) => Put_full (E4.drop1.new hX) hup (by omega) (zs 129) (by rw [hSN, zs_size 129]; omega))
  obtain ⟨i0, hi, hz0, hz1, hz2⟩ := info_u8
  obtain ⟨wm, hmk, hrow, hgr⟩ := run_makeSlice_full (P := Try.prog) (w := W4) W4.heap.size 76 5 i0 (.int .u8 0) 1 Try.underlying76 hi hz0 hz1 .i64 .i64 129 (by omega) (by rw [hz2]; omega) (by unfold maxLen; omega) (Nat.le_refl _)
  have hcv := conv_zero wm W4.heap.size 129 hrow
  have hcv2 : (convert 76 9 (.slice (some ⟨W4.heap.size, 0, none⟩) 129 129)).run Try.prog wm = .ok (.string (zs 129)) wm := hcv
  have hmk2 : (Instr.makeSlice 76 (.int .i64 129) (.int .i64 129)).run Try.prog W4 = .ok (.slice (some ⟨W4.heap.size, 0, none⟩) 129 129) wm := hmk
  have K10 := hide (unhide K9 wm ⟨hgr.os, hgr.tape, hgr.output, hgr.size, fun k hk => hgr.block k hk (by simp)⟩)
  have HM := hide (And.intro hmk2 hcv2)
  clear K9 hcv hcv2 hmk hmk2 hrow hgr hi hz0 hz1 hz2
  clear K4 E4
  go_wp2_with (first | (go_at_call 28; refine (unhide K5).mono ?_; rintro e w1 ⟨rfl, rfl⟩) | (go_at_call 25; refine (unhide K6).mono ?_; rintro e w1 ⟨rfl, rfl⟩) | (go_at_call 29; refine (unhide K7).mono ?_; rintro e w1 ⟨rfl, rfl⟩) | (go_at_call 23; refine (unhide K8).mono ?_; rintro e w1 ⟨rfl, rfl⟩))
  rw [(unhide HM).1]
  simp only [Result.andThen]
  rw [Oper.upon_value]
  go_wp2_with fail
  rw [(unhide HM).2]
  simp only [Result.andThen]
  rw [Oper.upon_value]
  go_wp2_with fail
  refine (unhide K10).mono ?_
  rintro e W5 ⟨rfl, E5⟩
  have HB := hide E5.bel
  clear E5 K10
  go_wp2_with fail
  go_ret
  exact ⟨rfl, unhide HB⟩
end Go.Proofs.Ytimhjheigejjmab
