/- TreeSets, the walk. -/
import Derived.Test.YtpgppnmobbgefaaGreatDoorTrLawTurns
import Derived.Test.YtpgppnmobbgefaaGreatDoorZ20
namespace Go.Proofs.YtpgppnmobbgefaaGreatDoor
open Go.RowKit Go.Maps

theorem slice_from8 (w : World) (g o n cap i : Nat) (hi : i ≤ n) (hc : n < cap) : (Instr.slice 31 (.slice (some ⟨g, o, none⟩) n cap) (some (.int .i64 (i : Int))) none none).run Tryz.prog w = .ok (.slice (some ⟨g, o + i, none⟩) (n - i) (cap - i)) w := by
  have ht : Tryz.prog.underlying 31 = some (.slice (Tryz.prog.elem 31)) := by kernel_rfl
  have he : Tryz.prog.elem 31 = 3 := by kernel_rfl
  have hs : (Go.sizeOf 3).run Tryz.prog w = .ok 1 w := by kernel_rfl
  rw [run_slice_l (P := Tryz.prog) w 31 (some ⟨g, o, none⟩) n cap ht .i64 i (by omega) (by omega), he, hs]
  have hne : ¬ cap = i := by omega
  simp [Result.andThen, sliced, hne, Addr.add]
theorem nums_head {w : World} {g PL c : Nat} {p0 : Int} {r : List Int} (h : Nums w (.slice (some ⟨g, 0, none⟩) PL c) (p0 :: r)) : w.cell? ⟨g, 0, none⟩ = some (.int .i64 p0) ∧ Nums w (.slice (some ⟨g, 1, none⟩) (PL - 1) (c - 1)) r := by
  rcases h with ⟨h, -⟩ | ⟨g', o, cap, e, h1, h2, h3⟩
  · cases h
  · injection e with e1 e2 e3
    injection e1 with e1
    injection e1 with e4 e5
    subst e4; subst e5; subst e2; subst e3
    have q := h3 0 p0 rfl
    refine ⟨q, Or.inr ⟨g, 1, c - 1, by simp, by simp at h1 ⊢; omega, by omega, fun j z hj => ?_⟩⟩
    have := h3 (j + 1) z (by simpa using hj)
    rw [show 1 + j = 0 + (j + 1) by omega]
    exact this
/-- A tree in a variable, to be read alone. -/
structure NY (W0 wr : World) (nb : Nat) (r : Value) (T : List Nd) : Prop where
  bel : Below W0.heap.size W0 wr
  tr : ∃ us, OTr W0.heap.size wr r T us
  box : wr.heap[nb]? = some (.cells #[r] 24 (0, 0))
theorem ny_new {W0 z : World} {r : Value} {T : List Nd} {us : List Value} (x : Below W0.heap.size W0 z) (O : OTr W0.heap.size z r T us) : NY W0 (z.alloc (.cells #[r] 24)) z.heap.size r T :=
  ⟨x.alloc x.size _, ⟨us, O.bw (bwA _ _)⟩, heap_alloc_new _ _⟩
theorem ny_put {W0 z : World} {nb : Nat} {r : Value} {T : List Nd} {us : List Value} (x : Below W0.heap.size W0 z) (O : OTr W0.heap.size z r T us) (k : z.heap[nb]? = some (.cells #[.slice none 0 0] 24 (0, 0))) (hnb : W0.heap.size ≤ nb) : NY W0 (z.setCell ⟨nb, 0, none⟩ r) nb r T := by
  refine ⟨x.setCell hnb _, ⟨us, ?_⟩, by simp [World.setCell, Array.getElem?_modify, k]⟩
  refine ⟨O.ul, own_keep O.row (fun j hj => Below.heap_setCell _ _ _ _ ?_), fun i n u h1 h2 => own_keep (O.un i n u h1 h2) (fun j hj => Below.heap_setCell _ _ _ _ ?_), O.apart⟩
  · simp; intro c; subst c
    obtain ⟨cur, e⟩ := own_kind O.row hj
    rw [k] at e; simp at e
  · simp; intro c; subst c
    obtain ⟨cur, e⟩ := own_kind (O.un i n u h1 h2) hj
    rw [k] at e; simp at e

set_option maxRecDepth 100000 in
set_option maxHeartbeats 8000000 in
theorem TreeSets_walk (w : World) (v pv : Value) (T : List Nd) (ps : List Int) (h : Trd w v T) (hpv : Nums w pv ps) (hpl : ps.length ≤ 140737488355328) (hT : Tab w) (li ee : Int) :
    Calls Tryz.prog 6 #[.agg #[v], .int .i64 li, .int .i64 ee, pv] w fun e w' => e = .returned (.bool true) ∧ Below w.heap.size w w' := by
  obtain ⟨a, c, rfl⟩ := h.slice
  obtain ⟨pa, pc, rfl⟩ := nums_slice hpv
  obtain ⟨W0, hW0⟩ : ∃ W0, W0 = bxw w (.slice a T.length c) := ⟨_, rfl⟩
  have hb0 : Below w.heap.size w W0 := by rw [hW0]; exact bwA _ _
  have HB : Hid (∀ W, Below W0.heap.size W0 W → W.cell? ⟨w.heap.size, 0, none⟩ = some (.slice a T.length c) ∧ Below w.heap.size w W) := fun W hW => by subst hW0; exact ⟨bx_cell hW, bx_bel hW⟩
  have HH : Hid (∀ W, Below w.heap.size w W → Trd W (.slice a T.length c) T ∧ Tab W ∧ Nums W (.slice pa ps.length pc) ps) := fun W hW => ⟨h.bw hW, hT.bw hW, hpv.bw hW⟩
  have KE : Hid (∀ W, Below w.heap.size w W → Calls Tryz.prog 22 #[] W fun e w' => e = .returned (.bool true) ∧ Below w.heap.size w w') := fun W hW => alive_end9 hT hW
  have KT := hide (treeSize2_any (h.bw hb0))
  have HW : Hid (W0 = w.alloc (.cells #[.slice a T.length c] 24)) := hW0
  clear h hT hW0 hpv
  obtain ⟨N, hN⟩ : ∃ N, N = T.length := ⟨_, rfl⟩
  rw [← hN] at HB HH HW KT ⊢
  have HN := hide hN
  clear hN
  obtain ⟨PL, hPL⟩ : ∃ PL, PL = ps.length := ⟨_, rfl⟩
  rw [← hPL] at HH hpl ⊢
  have HPL := hide hPL
  clear hPL
  go_enter Tryz.func6, Tryz.ntmps6
  go_wp2_with fail
  rw [← unhide HW]
  refine (unhide KT).mono ?_
  rintro e W1 ⟨n, rfl, hn, hsum, b1⟩
  have b2 : Below W0.heap.size W0 (W1.alloc (.cells #[.int .i64 (n : Int), .int .i64 (PL : Int)] 3)) := b1.alloc b1.size _
  have KBy := hide (beyond9 W1.heap.size n PL 2 (W1.alloc (.cells #[.int .i64 (n : Int), .int .i64 (PL : Int)] 3)) hn (by omega) (cell_of_blk (heap_alloc_new W1 _) rfl) (cell_of_blk (heap_alloc_new W1 _) rfl))
  obtain ⟨W2, hW2⟩ : ∃ W2, W2 = W1.alloc (.cells #[.int .i64 (n : Int), .int .i64 (PL : Int)] 3) := ⟨_, rfl⟩
  rw [← hW2] at KBy b2
  have HW2 := hide hW2
  have HSM := hide hsum
  clear hW2 KT HW hn b1 hsum
  obtain ⟨c0, hbw⟩ := unhide HB _ b2
  go_wp2_with fail
  rw [← unhide HW2]
  refine (unhide KBy).mono ?_
  rintro e W2 ⟨by_, rfl, hby, rfl⟩
  clear KBy HW2
  cases by_
  rotate_left
  · clear hby
    go_wp2_with fail
    go_ret
    exact ⟨rfl, hbw⟩
  obtain ⟨hle, hpl2⟩ := hby rfl
  have HSZ2 : Hid (T.length ≤ 262144 ∧ ∀ x ∈ T, x.un.length ≤ 1048576) := by
    have hs := unhide HSM hle
    have := unhide HN
    exact ⟨by omega, fun x hx => by have := usum_mem hx; omega⟩
  have hPLI : (PL : Int) ≤ 262144 := by omega
  have KTw : Hid (Calls Tryz.prog 9 #[.agg #[.slice a N c]] W2 fun e w' => ∃ g us, e = .returned (.agg #[.slice (some ⟨g, 0, none⟩) N (N + 2)]) ∧ TwT W2.heap.size w' g T us ∧ Below W2.heap.size W2 w') := by
    have := twinTree_any W2 _ T (unhide HH _ hbw).1 (by have := (unhide HSZ2).1; omega) (unhide HSZ2).2
    rw [← unhide HN] at this
    exact this
  have hbw2 := hbw.size
  clear hby hle HSM
  go_wp2_with fail
  refine (unhide KTw).mono ?_
  rintro e W3 ⟨G, us, rfl, ht, b3⟩
  have b4 := bw_tr b2 b3
  have KTn : Hid (Calls Tryz.prog 39 #[.slice pa PL pc] W3 fun e w' => e = .returned (.slice (some ⟨W3.heap.size, 0, none⟩) PL (PL + 2)) ∧ Twint w' W3.heap.size ps ∧ Below W3.heap.size W3 w') := by
    have := twinint_any W3 _ ps (unhide HH _ (unhide HB _ b4).2).2.2 (by rw [← unhide HPL]; omega)
    rw [← unhide HPL] at this
    exact this
  clear KTw c0 hbw b2
  go_wp2_with fail
  refine (unhide KTn).mono ?_
  rintro e W4 ⟨rfl, htn, b5⟩
  have b6 := bw_tr b4 b5
  obtain ⟨G2, hG2⟩ : ∃ G2, G2 = W3.heap.size := ⟨_, rfl⟩
  rw [← hG2] at htn ⊢
  clear KTn
  obtain ⟨WX, hWX⟩ : ∃ WX, WX = W4.alloc (.cells #[.slice (some ⟨G, 0, none⟩) N (N + 2)] 24) := ⟨_, rfl⟩
  have bX : Below W4.heap.size W4 WX := by rw [hWX]; exact bwA _ _
  have bX0 := bw_tr b6 bX
  have HV0 : Hid (Vt W2.heap.size WX.heap.size WX W4.heap.size (.slice (some ⟨G, 0, none⟩) N (N + 2)) T us) := by
    have ho := (ht.bw b5).otr (unhide HSZ2).2
    rw [← unhide HN] at ho
    have := Vt.new ho
    rw [← hWX] at this
    exact ⟨this.blk, this.tr, fun k hk => Nat.lt_of_lt_of_le (this.lt k hk) bX.size, fun i u k hu hk => Nat.lt_of_lt_of_le (this.ltu i u k hu hk) bX.size⟩
  have HTW : Hid (TwT W2.heap.size WX G T us) := (ht.bw b5).bw bX
  have HTN : Hid (∀ W, Below WX.heap.size WX W → Twint W G2 ps) := fun W hW => by
    have hb := bw_tr bX hW
    have hlt := lt_of_blk htn
    show W.heap[G2]? = _
    rw [hb.block G2 hlt]; exact htn
  have HBX : Hid (∀ W, Below WX.heap.size WX W → W.cell? ⟨w.heap.size, 0, none⟩ = some (.slice a N c) ∧ Below w.heap.size w W) := fun W hW => unhide HB _ (bw_tr bX0 hW)
  have HTR : Hid (∀ W, Below WX.heap.size WX W → Trd W (.slice (some ⟨G, 0, none⟩) N (N + 2)) T ∧ Tab W ∧ Trd W (.slice a N c) T ∧ Nums W (.slice pa PL pc) ps) := fun W hW => by
    have := ((unhide HTW).bw hW).otr (unhide HSZ2).2
    have := this.trd (by have := (unhide HSZ2).1; omega) (fun x hx => by have := (unhide HSZ2).2 x hx; omega)
    rw [← unhide HN] at this
    have hh := unhide HH _ (unhide HBX _ hW).2
    exact ⟨this, hh.2.1, hh.1, hh.2.2⟩
  have HNT : Hid (∀ W, Below WX.heap.size WX W → Nums W (.slice (some ⟨G2, 0, none⟩) PL (PL + 2)) ps) := fun W hW => by
    have := ((unhide HTN W hW).ints (B := 0) (by rw [← unhide HPL]; omega) (Nat.zero_le _)).nums
    rw [← unhide HPL] at this
    exact this
  have RL : Hid (∀ W, Below WX.heap.size WX W → Calls Tryz.prog 19 #[.agg #[.slice (some ⟨G, 0, none⟩) N (N + 2)], .agg #[.slice a N c]] W fun e w' => e = .returned (.bool true) ∧ Below W.heap.size W w') := fun W hW => by
    have := leftTree_any W W2.heap.size G _ T us ((unhide HTW).bw hW) (unhide HTR W hW).2.2.1 (by have := (unhide HSZ2).1; omega) (unhide HSZ2).2
    rw [← unhide HN] at this
    exact this
  have RN : Hid (∀ W, Below WX.heap.size WX W → Calls Tryz.prog 42 #[.slice (some ⟨G2, 0, none⟩) PL (PL + 2), .slice pa PL pc] W fun e w' => e = .returned (.bool true) ∧ Below W.heap.size W w') := fun W hW => by
    have hn := unhide HPL
    have := leftint_any W G2 (.slice pa PL pc) ps (unhide HTN W hW) (unhide HTR W hW).2.2.2 (by omega)
    rw [← hn] at this
    exact this
  have HWX : Hid (WX = W4.alloc (.cells #[.slice (some ⟨G, 0, none⟩) N (N + 2)] 24)) := hWX
  have HS2 : Hid (w.heap.size ≤ W2.heap.size ∧ W2.heap.size ≤ WX.heap.size) := ⟨hbw2, by have := b3.size; have := b5.size; have := bX.size; omega⟩
  clear hWX ht htn b3 b4 b5 b6 bX bX0 HB HH HTW HTN hbw2 hG2
  have x0 : Below WX.heap.size WX WX := Below.refl _ _
  go_upto_region 4 with fail
  rw [← unhide HWX]
  clear HWX
  go_upto_if 30 with fail
  go_cut [11, 12] from 28 to 35 (fun s11 s12 wx => ∃ pp ra RL rc rps, s11 = .int .i64 pp ∧ s12 = .slice ra RL rc ∧ Hid (RL = rps.length ∧ RL ≤ PL ∧ ∀ W, Below WX.heap.size WX W → Nums W (.slice ra RL rc) rps) ∧ Below WX.heap.size WX wx)
  case first =>
    rcases Nat.eq_zero_or_pos PL with hz | hz
    · subst hz
      go_wp2_with fail
      go_meet
      case rel => exact ⟨1, none, 0, 0, [], rfl, rfl, ⟨rfl, Nat.zero_le _, fun W _ => Or.inl ⟨rfl, none, 0, rfl, fun _ => rfl⟩⟩, x0⟩
    · obtain ⟨p0, pr, hpr⟩ : ∃ p0 pr, ps = p0 :: pr := by
        have := unhide HPL
        cases ps with
        | nil => simp at this; omega
        | cons a b => exact ⟨a, b, rfl⟩
      have HN2 : Hid (∀ W, Below WX.heap.size WX W → W.cell? ⟨G2, 0, none⟩ = some (.int .i64 p0) ∧ Nums W (.slice (some ⟨G2, 1, none⟩) (PL - 1) (PL + 1)) pr) := fun W hW => by
        have := unhide HNT W hW
        rw [hpr] at this
        exact nums_head this
      have HL2 : Hid (PL - 1 = pr.length) := by have := unhide HPL; unfold Hid; rw [this, hpr]; simp
      clear hpr
      have hcG := (unhide HN2 WX x0).1
      have hsl : ∀ w, (Instr.slice 31 (.slice (some ⟨G2, 0, none⟩) PL (PL + 2)) (some (.int .i64 1)) none none).run Tryz.prog w = .ok (.slice (some ⟨G2, 1, none⟩) (PL - 1) (PL + 1)) w := fun w => slice_from8 w G2 0 PL (PL + 2) 1 (by omega) (by omega)
      have hzI : (0 : Int) < (PL : Int) := by omega
      go_wp2_with fail
      go_quiet (fail)
      go_wp2_with fail
      go_meet
      case rel => exact ⟨p0, _, _, _, pr, rfl, rfl, ⟨unhide HL2, Nat.sub_le _ _, fun W hW => (unhide HN2 W hW).2⟩, below_drewN x0 _⟩
  case rest =>
  rename World => wq
  obtain ⟨pp, ra, RL_, rc, rps, rfl, rfl, HR, x1⟩ := hcut
  clear x0 HNT
  have x0 := x1
  clear x1
  obtain ⟨SE, hSE⟩ : ∃ SE : Int, SE = setE T li ee pp rps := ⟨_, rfl⟩
  obtain ⟨R1, hR1⟩ : ∃ R, R = setR T li ee pp rps := ⟨_, rfl⟩
  have q1 : Hid (R1.length ≤ 15 ∧ ∀ x ∈ R1, x.un.length ≤ 8) := by unfold Hid; rw [hR1]; exact setR_bnd _ _ _ _ _
  have hRl : Hid (rps.length ≤ 1048576) := by have := unhide HR; unfold Hid; omega
  have K1 : Hid (∀ W, Below WX.heap.size WX W → Calls Tryz.prog 40 #[.agg #[.slice (some ⟨G, 0, none⟩) N (N + 2)], .int .i64 li, .int .i64 ee, .int .i64 pp, .slice ra RL_ rc] W fun e w' => ∃ r us, e = .returned (.tuple #[.agg #[r], .int .i64 SE]) ∧ OTr W.heap.size w' r R1 us ∧ Below W.heap.size W w') := fun W hW => by rw [hSE, hR1]; exact set_any (unhide HTR W hW).1 ((unhide HR).2.2 W hW) (unhide hRl) (unhide HTR W hW).2.1 li ee pp
  have K2 : Hid (∀ W v, Below WX.heap.size WX W → Nums W v rps → Calls Tryz.prog 41 #[.agg #[.slice a N c], .int .i64 li, .int .i64 ee, .int .i64 pp, v] W fun e w' => ∃ r us, e = .returned (.tuple #[.agg #[r], .int .i64 SE]) ∧ OTr W.heap.size w' r R1 us ∧ Below W.heap.size W w') := fun W v hW hv => by rw [hSE, hR1]; exact rset_any (unhide HTR W hW).2.2.1 hv (unhide hRl) li ee pp
  have KT2 : Hid (∀ W, Below WX.heap.size WX W → Calls Tryz.prog 39 #[.slice ra RL_ rc] W fun e w' => ∃ v, e = .returned v ∧ Hid (∀ W', Below w'.heap.size w' W' → Nums W' v rps) ∧ Below W.heap.size W w') := fun W hW => by
    refine (twinint_any W _ rps ((unhide HR).2.2 W hW) (unhide hRl)).mono ?_
    rintro e w' ⟨h1, h2, h3⟩
    refine ⟨_, h1, fun W' hb => ?_, h3⟩
    have hlt := lt_of_blk h2
    have h4 : Twint W' W.heap.size rps := by show W'.heap[W.heap.size]? = _; rw [hb.block _ hlt]; exact h2
    exact (h4.ints (B := 0) (unhide hRl) (Nat.zero_le _)).nums
  clear hSE hR1
  have V0 : Hid (Vt W2.heap.size WX.heap.size wq W4.heap.size (.slice (some ⟨G, 0, none⟩) N (N + 2)) T us) := (unhide HV0).bw x0
  clear HV0
  have cV0 := (unhide V0).cell
  go_wp2_with fail
  refine (unhide K1 _ x0).mono ?_
  rintro e Y1 ⟨r1, us1, rfl, o1, y⟩
  obtain ⟨a1, c1, re⟩ := own_slice o1.row
  subst re
  obtain ⟨Z1, hZ⟩ : ∃ Z, Z = Y1.alloc (.cells #[.slice a1 R1.length c1] 24) := ⟨_, rfl⟩
  have bz : Below wq.heap.size wq Z1 := by rw [hZ]; exact y.alloc y.size _
  have V1 : Hid (Vt wq.heap.size Z1.heap.size Z1 Y1.heap.size (.slice a1 R1.length c1) R1 us1) := by
    have h9 := Vt.new o1
    rw [← hZ] at h9
    have hs : Y1.heap.size ≤ Z1.heap.size := by rw [hZ]; simp
    exact ⟨h9.blk, h9.tr, fun k hk => Nat.lt_of_lt_of_le (h9.lt k hk) hs, fun i u k hu hk => Nat.lt_of_lt_of_le (h9.ltu i u k hu hk) hs⟩
  have HZ := hide hZ
  replace V0 := hide ((unhide V0).bw bz)
  have HS3 : Hid (WX.heap.size ≤ wq.heap.size ∧ wq.heap.size ≤ Z1.heap.size) := ⟨x0.size, bz.size⟩
  have xn := bw_tr x0 bz
  clear x0
  have x0 := xn
  clear xn y bz hZ o1 K1 cV0
  go_upto_region 9 with fail
  rw [← unhide HZ]
  clear HZ
  have HBC : Hid (∀ W, Below Z1.heap.size Z1 W → W.cell? ⟨w.heap.size, 0, none⟩ = some (.slice a N c) ∧ Below WX.heap.size WX W) := fun W hW => ⟨(unhide HBX W (bw_tr x0 hW)).1, bw_tr x0 hW⟩
  have bA : Below Z1.heap.size Z1 Z1.drew := (Below.refl _ _).drew
  have bB : Below Z1.heap.size Z1 (Z1.alloc (.cells #[.slice none 0 0] 24)).drew := (bwA _ _).drew
  have k0 : (Z1.alloc (.cells #[.slice none 0 0] 24)).drew.heap[Z1.heap.size]? = some (.cells #[.slice none 0 0] 24 (0, 0)) := heap_alloc_new Z1 _
  have S0 := (unhide HBC _ bA).1
  have S0b := (unhide HBC _ bB).1
  have xA := (unhide HBC _ bA).2
  have xB := (unhide HBC _ bB).2
  have hA3 : Z1.heap.size ≤ Z1.heap.size := Nat.le_refl _
  go_cut [15, 16] from 45 to 54 (fun s15 s16 wx => ∃ nb r, s15 = .pointer (some ⟨nb, 0, none⟩) ∧ s16 = .int .i64 SE ∧ Hid (NY Z1 wx nb r R1))
  case first =>
    go_region_held3 (fun w' : World => w'.cell? ⟨w.heap.size, 0, none⟩ = some (.slice a N c)) (first | with_reducible exact S0 | with_reducible exact S0b | with_reducible exact S1 | with_reducible exact S1b | with_reducible exact S3 | with_reducible exact S3b | with_reducible exact S3c | with_reducible exact S3d) (first
      | (go_at_call 39; first
        | (with_reducible refine (unhide KT2 _ xA).mono ?_; rintro e z1 ⟨v1, rfl, n1, y1⟩; have x1 : Below Z1.heap.size Z1 z1 := bw_tr bA y1; have S1 := (unhide HBC _ x1).1; have x1b := x1.alloc x1.size (.cells #[.slice none 0 0] 24); have S1b := (unhide HBC _ x1b).1)
        | (with_reducible refine (unhide KT2 _ xB).mono ?_; rintro e z1 ⟨v1, rfl, n1, y1⟩; have x1 : Below Z1.heap.size Z1 z1 := bw_tr bB y1; have S1 := (unhide HBC _ x1).1; have k1 := kept1 k0 y1) | fail)
      | (go_at_call 41; first
        | (with_reducible refine (unhide K2 _ _ (unhide HBC _ x1).2 (unhide n1 _ (Below.refl _ _))).mono ?_; rintro e z3 ⟨r3, us3, rfl, hO, y3⟩; obtain ⟨a3, c3, rfl⟩ := own_slice hO.row; have x3 := bw_tr x1 y3; have O3 := hO.mono x1.size; have S3 := (unhide HBC _ x3).1; have S3b := (unhide HBC _ (x3.alloc x3.size (.cells #[.slice a3 R1.length c3] 24))).1; have S3d := (unhide HBC _ (x3.alloc x3.size (.cells #[.slice none 0 0] 24))).1; try (have k3 : z3.heap[Z1.heap.size]? = some (.cells #[.slice none 0 0] 24 (0, 0)) := kept1 k1 y3; have k4 : z3.cell? ⟨Z1.heap.size, 0, none⟩ = some (.slice none 0 0) := cell_of_blk k3 rfl; have k5 : z3.frozen? ⟨Z1.heap.size, 0, none⟩ = false := frozen_of_blk k3; have hN := ny_put x3 O3 k3 hA3; have S3c := (unhide HBC _ hN.bel).1))
        | (with_reducible refine (unhide K2 _ _ (unhide HBC _ x1b).2 (unhide n1 _ (bwA _ _))).mono ?_; rintro e z3 ⟨r3, us3, rfl, hO, y3⟩; obtain ⟨a3, c3, rfl⟩ := own_slice hO.row; have x3 := bw_tr x1b y3; have O3 := hO.mono x1b.size; have S3 := (unhide HBC _ x3).1; have k3 := new1 y3; have k4 : z3.cell? ⟨z1.heap.size, 0, none⟩ = some (.slice none 0 0) := cell_of_blk k3 rfl; have k5 : z3.frozen? ⟨z1.heap.size, 0, none⟩ = false := frozen_of_blk k3; have hN := ny_put x3 O3 k3 x1.size; have S3c := (unhide HBC _ hN.bel).1) | fail) | fail)
    all_goals
      go_wp2_with fail
      go_meet
      case rel => first | exact ⟨_, _, rfl, rfl, hN⟩ | exact ⟨_, _, rfl, rfl, ny_new x3 O3⟩
  case rest =>
  obtain ⟨nb, r, rfl, rfl, hNY⟩ := hcut
  obtain ⟨a2, c2, hr2⟩ : ∃ a2 c2, r = .slice a2 R1.length c2 := by obtain ⟨u2, o2⟩ := (unhide hNY).tr; exact own_slice o2.row
  subst hr2
  have y := (unhide hNY).bel
  have TR2 : Hid (Trd wc (.slice a2 R1.length c2) R1) := by obtain ⟨u2, o2⟩ := (unhide hNY).tr; exact o2.trd (by have := (unhide q1).1; omega) (fun x hx => by have := (unhide q1).2 x hx; omega)
  have cB : wc.cell? ⟨nb, 0, none⟩ = some (.slice a2 R1.length c2) := cell_of_blk (unhide hNY).box rfl
  replace V0 := hide ((unhide V0).bw y)
  replace V1 := hide ((unhide V1).bw y)
  have xn := bw_tr x0 y
  clear x0 hNY
  have x0 := xn
  clear xn y bA bB k0 S0 S0b xA xB hA3 HBC K2 KT2
  have KS := hide (sameTree_eq ((unhide V1).trd (unhide q1)) (unhide TR2))
  have cA := (unhide V1).cell
  go_wp2_with fail
  refine (unhide KS).mono ?_
  rintro e S1 ⟨rfl, y⟩
  replace V0 := hide ((unhide V0).bw y)
  replace V1 := hide ((unhide V1).bw y)
  have xn := bw_tr x0 y
  clear x0
  have x0 := xn
  clear KS cA cB y xn TR2
  have cV0 := (unhide V0).cell
  obtain ⟨cT, -⟩ := unhide HBX _ x0
  go_wp2_with fail
  refine (unhide RL _ x0).mono ?_
  rintro e wb ⟨rfl, y⟩
  replace V0 := hide ((unhide V0).bw y)
  replace V1 := hide ((unhide V1).bw y)
  have xn := bw_tr x0 y
  clear x0 y cV0 cT RL
  have x0 := xn
  clear xn
  go_wp2_with fail
  refine (unhide RN _ x0).mono ?_
  rintro e wa ⟨rfl, y⟩
  replace V0 := hide ((unhide V0).bw y)
  replace V1 := hide ((unhide V1).bw y)
  have xn := bw_tr x0 y
  clear x0 y RN
  have ba := (unhide HBX _ xn).2
  have hszx := xn.size
  clear HBX xn
  have hsz := ba.size
  go_wp2_with fail
  refine wp_build 70 #[] rfl (by kernel_rfl) ?_
  have hbuilt : (Tryz.prog.built 70 []).getD #[] = bookF 0 (fun _ => .slice none 0 0) := by kernel_rfl
  have hzero : ∀ w, (zeroValue 70).run Tryz.prog w = .ok (.agg (bookF 0 (fun _ => .slice none 0 0))) w := fun w => by kernel_rfl
  have hall : (bookF 0 (fun _ => .slice none 0 0)).all (·.oneCell') = true := by kernel_rfl
  have hsz62 : (Tryz.prog.info? 70).map (·.size) = some (bookF 0 (fun _ => .slice none 0 0)).size := by kernel_rfl
  simp only [List.map_toArray, List.map_nil, hbuilt]
  generalize hBF : bookF 0 (fun _ => .slice none 0 0) = BF at hbuilt hzero hall hsz62 ⊢
  go_upto_region 13 with (refine wpList_store_row rfl 70 (.tmp 17) (.tmp 76) rfl wa.heap.size BF rfl rfl 70 BF (heap_alloc_new _ _) hsz62 rfl hall ?_)
  obtain ⟨W, hW⟩ : ∃ W, W = (wa.alloc (.cells BF 70)).setRow wa.heap.size BF := ⟨_, rfl⟩
  have hblk : W.heap[wa.heap.size]? = some (.cells BF 70 (0, 0)) := by rw [hW]; exact setRow_new9 wa _ _ _
  have hWb : Below wa.heap.size wa W := by rw [hW]; exact setRow_below9 wa _ _ _
  rw [← hW]
  clear hW hbuilt hzero hall hsz62
  obtain ⟨b, hb⟩ : ∃ b, b = wa.heap.size := ⟨_, rfl⟩
  rw [← hb] at hblk ⊢
  have hbB : w.heap.size ≤ b := by omega
  rw [← hBF] at hblk
  clear hBF
  have k0 : Hid (Bo w.heap.size W b 0 W2.heap.size (fun _ => .slice none 0 0) [] [] (fun _ => []) (fun _ => [])) := Bo.start hblk hbB _
  have bW := bw_tr ba hWb
  have s0 := bW.size
  replace V0 := hide ((unhide V0).bw hWb)
  replace V1 := hide ((unhide V1).bw hWb)
  clear hblk hWb hb ba hsz hbB hszx
  have HL0 : Hid (N = T.length) := HN
  have KB := hide (btree_b w.heap.size b _ W2.heap.size WX.heap.size _ _ _ _ _ _ T _ W (unhide k0) s0 (unhide HS2).1 (unhide V0).tr (unhide HS2).2 (unhide V0).lt (unhide V0).ltu (by have := (unhide HSZ2).1; omega) (unhide HSZ2).2)
  have cV := (unhide V0).cell
  clear k0
  go_wp2_with fail
  refine (unhide KB).mono ?_
  rintro e B0 ⟨rfl, ⟨F0, eN0, eD0, XN0, XD0, k0'⟩, tf⟩
  have k0 := hide k0'
  have bn := bW.trans tf.bel
  clear bW
  have bW := bn
  have sn := bW.size
  clear s0
  have s0 := sn
  replace V1 := hide ((unhide V1).tf tf)
  clear KB cV tf k0' sn bn V0
  have KB := hide (btree_b w.heap.size b _ WX.heap.size Z1.heap.size _ _ _ _ _ _ R1 _ B0 (unhide k0) s0 (Nat.le_trans (unhide HS2).1 (unhide HS2).2) ((unhide V1).tr.mono (unhide HS3).1) (Nat.le_trans (unhide HS3).1 (unhide HS3).2) (unhide V1).lt (unhide V1).ltu (by have := (unhide HSZ2).1; have := (unhide q1).1; omega) (fun x hx => by have := (unhide q1).2 x hx; omega))
  have cV := (unhide V1).cell
  clear k0
  go_wp2_with fail
  refine (unhide KB).mono ?_
  rintro e B1 ⟨rfl, ⟨F1, eN1, eD1, XN1, XD1, k0'⟩, tf⟩
  have k0 := hide k0'
  have bn := bW.trans tf.bel
  clear bW
  have bW := bn
  have sn := bW.size
  clear s0
  have s0 := sn
  clear KB cV tf k0' sn bn V1
  have A := hide ((unhide k0).apart s0 (by have := unhide HL0; have := (unhide HSZ2).1; have := (unhide q1).1; omega))
  clear k0
  go_wp2_with fail
  refine (unhide A).mono ?_
  rintro e wf ⟨rfl, bF⟩
  have bG := bW.trans bF
  clear A
  go_wp2_with fail
  refine (unhide KE wf bG).mono ?_
  rintro e w9 ⟨rfl, hb9⟩
  go_wp2
  go_ret
  exact ⟨rfl, hb9⟩
end Go.Proofs.YtpgppnmobbgefaaGreatDoor
