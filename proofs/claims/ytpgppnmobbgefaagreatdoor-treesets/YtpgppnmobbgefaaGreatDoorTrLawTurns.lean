/- TreeTurns, the walk. -/
import Derived.Test.YtpgppnmobbgefaaGreatDoorZ16
import Derived.Test.YtpgppnmobbgefaaGreatDoorZ12
import Derived.Test.YtpgppnmobbgefaaGreatDoorTtE
import Derived.Test.YtpgppnmobbgefaaGreatDoorBoPND
import Derived.Test.YtpgppnmobbgefaaGreatDoorZ18
namespace Go.Proofs.YtpgppnmobbgefaaGreatDoor
open Go.RowKit Go.Maps

theorem alive_end9 {w W : World} (hT : Tab w) (hb : Below w.heap.size w W) : Calls Tryz.prog 22 #[] W fun e w' => e = .returned (.bool true) ∧ Below w.heap.size w w' := (alive8 W (hT.bw hb)).mono (fun _ _ h => ⟨h.1, bw_tr hb h.2⟩)
theorem setRow_new9 (w : World) (cells : Array Value) (t : TypeId) (new : Array Value) : ((w.alloc (.cells cells t)).setRow w.heap.size new).heap[w.heap.size]? = some (.cells new t (0, 0)) := by
  have h := heap_alloc_new w (.cells cells t)
  simp only [World.setRow, Array.getElem?_modify, h]
  simp
theorem setRow_below9 (w : World) (cells : Array Value) (t : TypeId) (new : Array Value) : Below w.heap.size w ((w.alloc (.cells cells t)).setRow w.heap.size new) := by
  have hb : Below w.heap.size w (w.alloc (.cells cells t)) := (Below.refl _ _).alloc (Nat.le_refl _) _
  refine ⟨hb.os, hb.tape, hb.output, by simp [World.setRow], fun k hk => ?_⟩
  rw [← hb.block k hk]
  have hne : ¬ w.heap.size = k := by omega
  simp only [World.setRow, Array.getElem?_modify, if_neg hne]
theorem var_blk {W4 W : World} {cs : Array Value} {t : TypeId} (hW : Below (W4.alloc (.cells cs t)).heap.size (W4.alloc (.cells cs t)) W) : W.heap[W4.heap.size]? = some (.cells cs t (0, 0)) := by
  rw [hW.block _ (by simp)]; exact heap_alloc_new _ _
theorem var_blk2 {w W : World} {cs cs' : Array Value} {t t' : TypeId} (hb : Below ((w.alloc (.cells cs t)).alloc (.cells cs' t')).heap.size ((w.alloc (.cells cs t)).alloc (.cells cs' t')) W) : W.heap[w.heap.size]? = some (.cells cs t (0, 0)) ∧ W.heap[w.heap.size + 1]? = some (.cells cs' t' (0, 0)) := by
  refine ⟨?_, ?_⟩
  · rw [hb.block _ (by simp; omega), Below.heap_alloc _ _ _ (by simp)]; exact heap_alloc_new _ _
  · have := var_blk hb
    simpa using this
theorem addR_bnd (T : List Nd) (m e p : Int) : (addR T m e p).length ≤ 15 ∧ ∀ x ∈ addR T m e p, x.un.length ≤ 8 := by
  unfold addR; split
  · next h => exact ⟨(mayB_15 (mayB_add h)).1, un_len (mayB_add h)⟩
  · simp
theorem remR_bnd (T : List Nd) (m : Int) : (remR T m).length ≤ 15 ∧ ∀ x ∈ remR T m, x.un.length ≤ 8 := by
  unfold remR; split
  · next h =>
    obtain ⟨i, -, -, hr⟩ := rm_of h
    exact ⟨(mayB_15 hr.ok.mayB).1, un_len hr.ok.mayB⟩
  · simp
/-- Where a tree's blocks lie. -/
theorem OTr.lts {B : Nat} {w : World} {v : Value} {T : List Nd} {us : List Value} (h : OTr B w v T us) : (∀ k, v.ownBlock = some k → k < w.heap.size) ∧ ∀ (i : Nat) (u : Value) (k : Nat), us[i]? = some u → u.ownBlock = some k → k < w.heap.size := by
  refine ⟨fun k hk => (World.ownsRow.lt h.row k hk).2, fun i u k hu hk => ?_⟩
  have hi : i < T.length := by have := (List.getElem?_eq_some_iff.1 hu).1; have := h.ul; omega
  exact (World.ownsRow.lt (h.un i T[i] u (List.getElem?_eq_getElem hi) hu) k hk).2
/-- A tree in a variable, made behind B; all of it lies below H. -/
structure Vt (B H : Nat) (W : World) (b : Nat) (v : Value) (T : List Nd) (us : List Value) : Prop where
  blk : W.heap[b]? = some (.cells #[v] 24 (0, 0))
  tr : OTr B W v T us
  lt : ∀ k, v.ownBlock = some k → k < H
  ltu : ∀ (i : Nat) (u : Value) (k : Nat), us[i]? = some u → u.ownBlock = some k → k < H
theorem Vt.cell {B H : Nat} {W : World} {b : Nat} {v : Value} {T : List Nd} {us : List Value} (h : Vt B H W b v T us) : W.cell? ⟨b, 0, none⟩ = some v := cell_of_blk h.blk rfl
theorem Vt.bw {B H : Nat} {W W' : World} {b : Nat} {v : Value} {T : List Nd} {us : List Value} (h : Vt B H W b v T us) (hb : Below W.heap.size W W') : Vt B H W' b v T us :=
  ⟨by rw [hb.block b (lt_of_blk h.blk)]; exact h.blk, h.tr.bw hb, h.lt, h.ltu⟩
theorem Vt.tf {B B' H : Nat} {W W' : World} {b : Nat} {v : Value} {T : List Nd} {us : List Value} (h : Vt B H W b v T us) (ht : Tf [70, 128, 240] B' W W') : Vt B H W' b v T us :=
  ⟨ht.blk h.blk (by decide), h.tr.tf ht (by decide) (by decide), h.lt, h.ltu⟩
theorem Vt.new {B : Nat} {W : World} {v : Value} {T : List Nd} {us : List Value} (h : OTr B W v T us) : Vt B W.heap.size (W.alloc (.cells #[v] 24)) W.heap.size v T us :=
  ⟨heap_alloc_new _ _, h.bw (bwA _ _), h.lts.1, h.lts.2⟩
theorem Vt.trd {B H : Nat} {W : World} {b : Nat} {v : Value} {T : List Nd} {us : List Value} (h : Vt B H W b v T us) (hb : T.length ≤ 15 ∧ ∀ x ∈ T, x.un.length ≤ 8) : Trd W v T :=
  h.tr.trd (by omega) (fun x hx => by have := hb.2 x hx; omega)
theorem Bo.apart {B : Nat} {w : World} {b n H : Nat} {F : Nat → Value} {eN eD : List Ent} {XN XD : Nat → List Value} (h : Bo B w b n H F eN eD XN XD) (hB : B ≤ w.heap.size) (hn : n ≤ 1048576) :
    Calls Tryz.prog 21 #[.pointer (some ⟨b, 0, none⟩)] w fun e w' => e = .returned (.bool true) ∧ Below B w w' :=
  apartApND_b B b (n : Int) F eN XN eD XD w ⟨h.blk, hB, Below.refl _ _, h.nil, h.N, by have := h.lN; omega, fun x hx => by have := h.cN x hx; omega, h.D, by have := h.lD; omega, fun x hx => by have := h.cD x hx; omega⟩ (fun x hx => (h.cN x hx).2.1) (fun x hx => (h.cD x hx).2.1)
set_option maxRecDepth 100000 in
set_option maxHeartbeats 8000000 in
theorem TreeTurns_walk (w : World) (v : Value) (T : List Nd) (h : Trd w v T) (hT : Tab w) (mm ee pp gm : Int) :
    Calls Tryz.prog 4 #[.agg #[v], .agg #[.int .i64 mm, .int .i64 ee, .int .i64 pp], .int .i64 gm] w fun e w' => e = .returned (.bool true) ∧ Below w.heap.size w w' := by
  obtain ⟨a, c, rfl⟩ := h.slice
  obtain ⟨W0, hW0⟩ : ∃ W0, W0 = (w.alloc (.cells #[.slice a T.length c] 24)).alloc (.cells #[.int .i64 mm, .int .i64 ee, .int .i64 pp] 75) := ⟨_, rfl⟩
  have hb0 : Below w.heap.size w W0 := by rw [hW0]; exact (bwA _ _).alloc (by simp) _
  have HB : Hid (∀ W, Below W0.heap.size W0 W → W.cell? ⟨w.heap.size, 0, none⟩ = some (.slice a T.length c) ∧ (W.cell? ⟨w.heap.size + 1, 0, none⟩ = some (.int .i64 mm) ∧ W.cell? ⟨w.heap.size + 1, 1, none⟩ = some (.int .i64 ee) ∧ W.cell? ⟨w.heap.size + 1, 2, none⟩ = some (.int .i64 pp)) ∧ Below w.heap.size w W) := fun W hW => by
    have hbb := bw_tr hb0 hW
    subst hW0
    obtain ⟨h1, h2⟩ := var_blk2 hW
    exact ⟨cell_of_blk h1 rfl, ⟨cell_of_blk h2 rfl, cell_of_blk h2 rfl, cell_of_blk h2 rfl⟩, hbb⟩
  have HH : Hid (∀ W, Below w.heap.size w W → Trd W (.slice a T.length c) T ∧ Tab W) := fun W hW => ⟨h.bw hW, hT.bw hW⟩
  have KE : Hid (∀ W, Below w.heap.size w W → Calls Tryz.prog 22 #[] W fun e w' => e = .returned (.bool true) ∧ Below w.heap.size w w') := fun W hW => alive_end9 hT hW
  have KT := hide (treeSize2_any (h.bw hb0))
  have HW : Hid (W0 = (w.alloc (.cells #[.slice a T.length c] 24)).alloc (.cells #[.int .i64 mm, .int .i64 ee, .int .i64 pp] 75)) := hW0
  clear h hT hW0
  obtain ⟨N, hN⟩ : ∃ N, N = T.length := ⟨_, rfl⟩
  rw [← hN] at HB HH HW KT ⊢
  have HN := hide hN
  clear hN
  go_enter Tryz.func4, Tryz.ntmps4
  go_wp2_with fail
  rw [← unhide HW]
  refine (unhide KT).mono ?_
  rintro e W1 ⟨n, rfl, hn, hsum, b1⟩
  have b2 : Below W0.heap.size W0 (W1.alloc (.cells #[.int .i64 (n : Int)] 3)) := b1.alloc b1.size _
  have KBy := hide (beyond8 W1.heap.size n 1 (W1.alloc (.cells #[.int .i64 (n : Int)] 3)) hn (cell_of_blk (heap_alloc_new W1 _) rfl))
  obtain ⟨W2, hW2⟩ : ∃ W2, W2 = W1.alloc (.cells #[.int .i64 (n : Int)] 3) := ⟨_, rfl⟩
  rw [← hW2] at KBy b2
  have HW2 := hide hW2
  have HSZ : Hid (decide (262144 < n) = false → T.length ≤ 262144 ∧ ∀ x ∈ T, x.un.length ≤ 1048576) := fun q => by
    have hle : n ≤ 262144 := by simpa using q
    have hs := hsum hle
    have := unhide HN
    exact ⟨by omega, fun x hx => by have := usum_mem hx; omega⟩
  clear hW2 KT HW hn b1 hsum
  generalize decide (262144 < n) = by_ at *
  obtain ⟨c0, -, hbw⟩ := unhide HB _ b2
  go_wp2_with fail
  rw [← unhide HW2]
  refine (unhide KBy).mono ?_
  rintro e W2 ⟨rfl, rfl⟩
  clear KBy HW2
  cases by_
  rotate_left
  · go_wp2_with fail
    go_ret
    exact ⟨rfl, hbw⟩
  have HSZ2 := hide (unhide HSZ rfl)
  have KTw : Hid (Calls Tryz.prog 9 #[.agg #[.slice a N c]] W2 fun e w' => ∃ g us, e = .returned (.agg #[.slice (some ⟨g, 0, none⟩) N (N + 2)]) ∧ TwT W2.heap.size w' g T us ∧ Below W2.heap.size W2 w') := by
    have := twinTree_any W2 _ T (unhide HH _ hbw).1 (by have := (unhide HSZ2).1; omega) (unhide HSZ2).2
    rw [← unhide HN] at this
    exact this
  clear HSZ
  have hbw2 := hbw.size
  go_wp2_with fail
  refine (unhide KTw).mono ?_
  rintro e W3 ⟨G, us, rfl, ht, b3⟩
  have b4 := bw_tr b2 b3
  clear KTw c0 hbw b2
  obtain ⟨WX, hWX⟩ : ∃ WX, WX = W3.alloc (.cells #[.slice (some ⟨G, 0, none⟩) N (N + 2)] 24) := ⟨_, rfl⟩
  have bX : Below W3.heap.size W3 WX := by rw [hWX]; exact bwA _ _
  have bX0 := bw_tr b4 bX
  have HV0 : Hid (Vt W2.heap.size WX.heap.size WX W3.heap.size (.slice (some ⟨G, 0, none⟩) N (N + 2)) T us) := by
    have ho := ht.otr (unhide HSZ2).2
    rw [← unhide HN] at ho
    have := Vt.new ho
    rw [← hWX] at this
    exact ⟨this.blk, this.tr, fun k hk => Nat.lt_of_lt_of_le (this.lt k hk) bX.size, fun i u k hu hk => Nat.lt_of_lt_of_le (this.ltu i u k hu hk) bX.size⟩
  have HTW : Hid (TwT W2.heap.size WX G T us) := ht.bw bX
  have HBX : Hid (∀ W, Below WX.heap.size WX W → W.cell? ⟨w.heap.size, 0, none⟩ = some (.slice a N c) ∧ (W.cell? ⟨w.heap.size + 1, 0, none⟩ = some (.int .i64 mm) ∧ W.cell? ⟨w.heap.size + 1, 1, none⟩ = some (.int .i64 ee) ∧ W.cell? ⟨w.heap.size + 1, 2, none⟩ = some (.int .i64 pp)) ∧ Below w.heap.size w W) := fun W hW => unhide HB _ (bw_tr bX0 hW)
  have HTR : Hid (∀ W, Below WX.heap.size WX W → Trd W (.slice (some ⟨G, 0, none⟩) N (N + 2)) T ∧ Tab W ∧ Trd W (.slice a N c) T) := fun W hW => by
    have := ((unhide HTW).bw hW).otr (unhide HSZ2).2
    have := this.trd (by have := (unhide HSZ2).1; omega) (fun x hx => by have := (unhide HSZ2).2 x hx; omega)
    rw [← unhide HN] at this
    exact ⟨this, (unhide HH _ (unhide HBX _ hW).2.2).2, (unhide HH _ (unhide HBX _ hW).2.2).1⟩
  obtain ⟨AV, hAV⟩ : ∃ AV : Int, AV = ((addA T mm ee pp : Nat) : Int) := ⟨_, rfl⟩
  obtain ⟨AE, hAE⟩ : ∃ AE : Int, AE = addE T mm ee pp := ⟨_, rfl⟩
  obtain ⟨GE, hGE⟩ : ∃ GE : Int, GE = remE T gm := ⟨_, rfl⟩
  obtain ⟨NE, hNE⟩ : ∃ NE : Int, NE = addE [] mm ee pp := ⟨_, rfl⟩
  obtain ⟨R1, hR1⟩ : ∃ R, R = addR T mm ee pp := ⟨_, rfl⟩
  obtain ⟨R2, hR2⟩ : ∃ R, R = remR T gm := ⟨_, rfl⟩
  obtain ⟨R3, hR3⟩ : ∃ R, R = addR [] mm ee pp := ⟨_, rfl⟩
  have q1 : Hid (R1.length ≤ 15 ∧ ∀ x ∈ R1, x.un.length ≤ 8) := by unfold Hid; rw [hR1]; exact addR_bnd _ _ _ _
  have q2 : Hid (R2.length ≤ 15 ∧ ∀ x ∈ R2, x.un.length ≤ 8) := by unfold Hid; rw [hR2]; exact remR_bnd _ _
  have q3 : Hid (R3.length ≤ 15 ∧ ∀ x ∈ R3, x.un.length ≤ 8) := by unfold Hid; rw [hR3]; exact addR_bnd _ _ _ _
  have K1 : Hid (∀ W, Below WX.heap.size WX W → Calls Tryz.prog 23 #[.agg #[.slice (some ⟨G, 0, none⟩) N (N + 2)], .agg #[.int .i64 mm, .int .i64 ee, .int .i64 pp]] W fun e w' => ∃ r us, e = .returned (.tuple #[.agg #[r], .int .i64 AV, .int .i64 AE]) ∧ OTr W.heap.size w' r R1 us ∧ Below W.heap.size W w') := fun W hW => by rw [hAV, hAE, hR1]; exact add_any (unhide HTR W hW).1 (unhide HTR W hW).2.1 mm ee pp
  have K2 : Hid (∀ W, Below WX.heap.size WX W → Calls Tryz.prog 24 #[.agg #[.slice (some ⟨G, 0, none⟩) N (N + 2)], .int .i64 gm] W fun e w' => ∃ r us, e = .returned (.tuple #[.agg #[r], .int .i64 GE]) ∧ OTr W.heap.size w' r R2 us ∧ Below W.heap.size W w') := fun W hW => by rw [hGE, hR2]; exact rem_any (unhide HTR W hW).1 (unhide HTR W hW).2.1 gm
  have K3 : Hid (∀ W, Below WX.heap.size WX W → Calls Tryz.prog 25 #[.agg #[.int .i64 mm, .int .i64 ee, .int .i64 pp]] W fun e w' => ∃ r us, e = .returned (.tuple #[.agg #[r], .int .i64 NE]) ∧ OTr W.heap.size w' r R3 us ∧ Below W.heap.size W w') := fun W hW => by rw [hNE, hR3]; exact new_any (unhide HTR W hW).2.1 mm ee pp
  have K4 : Hid (∀ W, Below WX.heap.size WX W → Calls Tryz.prog 26 #[.agg #[.slice a N c], .agg #[.int .i64 mm, .int .i64 ee, .int .i64 pp]] W fun e w' => ∃ r us, e = .returned (.tuple #[.agg #[r], .int .i64 AV, .int .i64 AE]) ∧ OTr W.heap.size w' r R1 us ∧ Below W.heap.size W w') := fun W hW => by rw [hAV, hAE, hR1]; exact radd_any (unhide HTR W hW).2.2 mm ee pp
  have K5 : Hid (∀ W, Below WX.heap.size WX W → Calls Tryz.prog 27 #[.agg #[.slice a N c], .int .i64 gm] W fun e w' => ∃ r us, e = .returned (.tuple #[.agg #[r], .int .i64 GE]) ∧ OTr W.heap.size w' r R2 us ∧ Below W.heap.size W w') := fun W hW => by rw [hGE, hR2]; exact rrem_any (unhide HTR W hW).2.2 gm
  have K6 : Hid (∀ W, Below WX.heap.size WX W → Calls Tryz.prog 28 #[.agg #[.int .i64 mm, .int .i64 ee, .int .i64 pp]] W fun e w' => ∃ r us, e = .returned (.tuple #[.agg #[r], .int .i64 NE]) ∧ OTr W.heap.size w' r R3 us ∧ Below W.heap.size W w') := fun W hW => by rw [hNE, hR3]; exact rnew_any mm ee pp
  have RL : Hid (∀ W, Below WX.heap.size WX W → Calls Tryz.prog 19 #[.agg #[.slice (some ⟨G, 0, none⟩) N (N + 2)], .agg #[.slice a N c]] W fun e w' => e = .returned (.bool true) ∧ Below W.heap.size W w') := fun W hW => by
    have := leftTree_any W W2.heap.size G _ T us ((unhide HTW).bw hW) (unhide HTR W hW).2.2 (by have := (unhide HSZ2).1; omega) (unhide HSZ2).2
    rw [← unhide HN] at this
    exact this
  have HWX : Hid (WX = W3.alloc (.cells #[.slice (some ⟨G, 0, none⟩) N (N + 2)] 24)) := hWX
  have HS2 : Hid (w.heap.size ≤ W2.heap.size ∧ W2.heap.size ≤ WX.heap.size) := ⟨hbw2, by have := b3.size; have := bX.size; omega⟩
  clear hWX hAV hAE hGE hNE hR1 hR2 hR3 ht b3 b4 bX bX0 HB HH HTW HTR hbw2
  have x0 : Below WX.heap.size WX WX := Below.refl _ _
  have V0 := HV0
  go_upto_region 4 with fail
  rw [← unhide HWX]
  clear HWX
  -- 1
  have cV0 := (unhide V0).cell
  obtain ⟨-, ⟨d0, d1, d2⟩, -⟩ := unhide HBX _ x0
  go_wp2_with fail
  refine (unhide K1 _ x0).mono ?_
  rintro e Y1 ⟨r1, us1, rfl, o1, y⟩
  obtain ⟨a1, c1, re⟩ := own_slice o1.row
  subst re
  obtain ⟨Z1, hZ⟩ : ∃ Z, Z = Y1.alloc (.cells #[.slice a1 R1.length c1] 24) := ⟨_, rfl⟩
  have bz : Below WX.heap.size WX Z1 := by rw [hZ]; exact y.alloc y.size _
  have V1 : Hid (Vt WX.heap.size Z1.heap.size Z1 Y1.heap.size (.slice a1 R1.length c1) R1 us1) := by
    have h9 := Vt.new o1
    rw [← hZ] at h9
    have hs : Y1.heap.size ≤ Z1.heap.size := by rw [hZ]; simp
    exact ⟨h9.blk, h9.tr, fun k hk => Nat.lt_of_lt_of_le (h9.lt k hk) hs, fun i u k hu hk => Nat.lt_of_lt_of_le (h9.ltu i u k hu hk) hs⟩
  have HZ := hide hZ
  replace V0 := hide ((unhide V0).bw bz)
  have HS3 : Hid (WX.heap.size ≤ Z1.heap.size) := bz.size
  have xn := bw_tr x0 bz
  clear x0
  have x0 := xn
  clear xn y bz hZ o1 K1 cV0 d0 d1 d2
  go_upto_region 5 with fail
  rw [← unhide HZ]
  clear HZ
  -- 2
  have cV0 := (unhide V0).cell
  obtain ⟨-, -, -⟩ := unhide HBX _ x0
  go_wp2_with fail
  refine (unhide K2 _ x0).mono ?_
  rintro e Y2 ⟨r2, us2, rfl, o2, y⟩
  obtain ⟨a2, c2, re⟩ := own_slice o2.row
  subst re
  obtain ⟨Z2, hZ⟩ : ∃ Z, Z = Y2.alloc (.cells #[.slice a2 R2.length c2] 24) := ⟨_, rfl⟩
  have bz : Below Z1.heap.size Z1 Z2 := by rw [hZ]; exact y.alloc y.size _
  have V2 : Hid (Vt Z1.heap.size Z2.heap.size Z2 Y2.heap.size (.slice a2 R2.length c2) R2 us2) := by
    have h9 := Vt.new o2
    rw [← hZ] at h9
    have hs : Y2.heap.size ≤ Z2.heap.size := by rw [hZ]; simp
    exact ⟨h9.blk, h9.tr, fun k hk => Nat.lt_of_lt_of_le (h9.lt k hk) hs, fun i u k hu hk => Nat.lt_of_lt_of_le (h9.ltu i u k hu hk) hs⟩
  have HZ := hide hZ
  replace V0 := hide ((unhide V0).bw bz)
  replace V1 := hide ((unhide V1).bw bz)
  have HS4 : Hid (Z1.heap.size ≤ Z2.heap.size) := bz.size
  have xn := bw_tr x0 bz
  clear x0
  have x0 := xn
  clear xn y bz hZ o2 K2 cV0
  go_upto_region 6 with fail
  rw [← unhide HZ]
  clear HZ
  -- 3
  obtain ⟨-, ⟨d0, d1, d2⟩, -⟩ := unhide HBX _ x0
  go_wp2_with fail
  refine (unhide K3 _ x0).mono ?_
  rintro e Y3 ⟨r3, us3, rfl, o3, y⟩
  obtain ⟨a3, c3, re⟩ := own_slice o3.row
  subst re
  obtain ⟨Z3, hZ⟩ : ∃ Z, Z = Y3.alloc (.cells #[.slice a3 R3.length c3] 24) := ⟨_, rfl⟩
  have bz : Below Z2.heap.size Z2 Z3 := by rw [hZ]; exact y.alloc y.size _
  have V3 : Hid (Vt Z2.heap.size Z3.heap.size Z3 Y3.heap.size (.slice a3 R3.length c3) R3 us3) := by
    have h9 := Vt.new o3
    rw [← hZ] at h9
    have hs : Y3.heap.size ≤ Z3.heap.size := by rw [hZ]; simp
    exact ⟨h9.blk, h9.tr, fun k hk => Nat.lt_of_lt_of_le (h9.lt k hk) hs, fun i u k hu hk => Nat.lt_of_lt_of_le (h9.ltu i u k hu hk) hs⟩
  have HZ := hide hZ
  replace V0 := hide ((unhide V0).bw bz)
  replace V1 := hide ((unhide V1).bw bz)
  replace V2 := hide ((unhide V2).bw bz)
  have HS5 : Hid (Z2.heap.size ≤ Z3.heap.size) := bz.size
  have xn := bw_tr x0 bz
  clear x0
  have x0 := xn
  clear xn y bz hZ o3 K3 d0 d1 d2
  go_upto_region 7 with fail
  rw [← unhide HZ]
  clear HZ
  -- 4
  obtain ⟨cT, ⟨d0, d1, d2⟩, -⟩ := unhide HBX _ x0
  go_wp2_with fail
  refine (unhide K4 _ x0).mono ?_
  rintro e Y4 ⟨r4, us4, rfl, o4, y⟩
  obtain ⟨a4, c4, re⟩ := own_slice o4.row
  subst re
  obtain ⟨Z4, hZ⟩ : ∃ Z, Z = Y4.alloc (.cells #[.slice a4 R1.length c4] 24) := ⟨_, rfl⟩
  have bz : Below Z3.heap.size Z3 Z4 := by rw [hZ]; exact y.alloc y.size _
  have V4 : Hid (Vt Z3.heap.size Z4.heap.size Z4 Y4.heap.size (.slice a4 R1.length c4) R1 us4) := by
    have h9 := Vt.new o4
    rw [← hZ] at h9
    have hs : Y4.heap.size ≤ Z4.heap.size := by rw [hZ]; simp
    exact ⟨h9.blk, h9.tr, fun k hk => Nat.lt_of_lt_of_le (h9.lt k hk) hs, fun i u k hu hk => Nat.lt_of_lt_of_le (h9.ltu i u k hu hk) hs⟩
  have HZ := hide hZ
  replace V0 := hide ((unhide V0).bw bz)
  replace V1 := hide ((unhide V1).bw bz)
  replace V2 := hide ((unhide V2).bw bz)
  replace V3 := hide ((unhide V3).bw bz)
  have HS6 : Hid (Z3.heap.size ≤ Z4.heap.size) := bz.size
  have xn := bw_tr x0 bz
  clear x0
  have x0 := xn
  clear xn y bz hZ o4 K4 cT d0 d1 d2
  go_upto_region 8 with fail
  rw [← unhide HZ]
  clear HZ
  -- 5
  obtain ⟨cT, -, -⟩ := unhide HBX _ x0
  go_wp2_with fail
  refine (unhide K5 _ x0).mono ?_
  rintro e Y5 ⟨r5, us5, rfl, o5, y⟩
  obtain ⟨a5, c5, re⟩ := own_slice o5.row
  subst re
  obtain ⟨Z5, hZ⟩ : ∃ Z, Z = Y5.alloc (.cells #[.slice a5 R2.length c5] 24) := ⟨_, rfl⟩
  have bz : Below Z4.heap.size Z4 Z5 := by rw [hZ]; exact y.alloc y.size _
  have V5 : Hid (Vt Z4.heap.size Z5.heap.size Z5 Y5.heap.size (.slice a5 R2.length c5) R2 us5) := by
    have h9 := Vt.new o5
    rw [← hZ] at h9
    have hs : Y5.heap.size ≤ Z5.heap.size := by rw [hZ]; simp
    exact ⟨h9.blk, h9.tr, fun k hk => Nat.lt_of_lt_of_le (h9.lt k hk) hs, fun i u k hu hk => Nat.lt_of_lt_of_le (h9.ltu i u k hu hk) hs⟩
  have HZ := hide hZ
  replace V0 := hide ((unhide V0).bw bz)
  replace V1 := hide ((unhide V1).bw bz)
  replace V2 := hide ((unhide V2).bw bz)
  replace V3 := hide ((unhide V3).bw bz)
  replace V4 := hide ((unhide V4).bw bz)
  have HS7 : Hid (Z4.heap.size ≤ Z5.heap.size) := bz.size
  have xn := bw_tr x0 bz
  clear x0
  have x0 := xn
  clear xn y bz hZ o5 K5 cT
  go_upto_region 9 with fail
  rw [← unhide HZ]
  clear HZ
  -- 6
  obtain ⟨-, ⟨d0, d1, d2⟩, -⟩ := unhide HBX _ x0
  go_wp2_with fail
  refine (unhide K6 _ x0).mono ?_
  rintro e Y6 ⟨r6, us6, rfl, o6, y⟩
  obtain ⟨a6, c6, re⟩ := own_slice o6.row
  subst re
  obtain ⟨Z6, hZ⟩ : ∃ Z, Z = Y6.alloc (.cells #[.slice a6 R3.length c6] 24) := ⟨_, rfl⟩
  have bz : Below Z5.heap.size Z5 Z6 := by rw [hZ]; exact y.alloc y.size _
  have V6 : Hid (Vt Z5.heap.size Z6.heap.size Z6 Y6.heap.size (.slice a6 R3.length c6) R3 us6) := by
    have h9 := Vt.new o6
    rw [← hZ] at h9
    have hs : Y6.heap.size ≤ Z6.heap.size := by rw [hZ]; simp
    exact ⟨h9.blk, h9.tr, fun k hk => Nat.lt_of_lt_of_le (h9.lt k hk) hs, fun i u k hu hk => Nat.lt_of_lt_of_le (h9.ltu i u k hu hk) hs⟩
  have HZ := hide hZ
  replace V0 := hide ((unhide V0).bw bz)
  replace V1 := hide ((unhide V1).bw bz)
  replace V2 := hide ((unhide V2).bw bz)
  replace V3 := hide ((unhide V3).bw bz)
  replace V4 := hide ((unhide V4).bw bz)
  replace V5 := hide ((unhide V5).bw bz)
  have HS8 : Hid (Z5.heap.size ≤ Z6.heap.size) := bz.size
  have xn := bw_tr x0 bz
  clear x0
  have x0 := xn
  clear xn y bz hZ o6 K6 d0 d1 d2
  go_upto_region 10 with fail
  rw [← unhide HZ]
  clear HZ
  have KS := hide (sameTree_eq ((unhide V1).trd (unhide q1)) ((unhide V4).trd (unhide q1)))
  have cA := (unhide V1).cell
  have cB := (unhide V4).cell
  go_wp2_with fail
  refine (unhide KS).mono ?_
  rintro e S1 ⟨rfl, y⟩
  replace V0 := hide ((unhide V0).bw y)
  replace V1 := hide ((unhide V1).bw y)
  replace V2 := hide ((unhide V2).bw y)
  replace V3 := hide ((unhide V3).bw y)
  replace V5 := hide ((unhide V5).bw y)
  replace V6 := hide ((unhide V6).bw y)
  have xn := bw_tr x0 y
  clear x0
  have x0 := xn
  clear KS cA cB y V4 xn
  have KS := hide (sameTree_eq ((unhide V2).trd (unhide q2)) ((unhide V5).trd (unhide q2)))
  have cA := (unhide V2).cell
  have cB := (unhide V5).cell
  go_wp2_with fail
  refine (unhide KS).mono ?_
  rintro e S2 ⟨rfl, y⟩
  replace V0 := hide ((unhide V0).bw y)
  replace V1 := hide ((unhide V1).bw y)
  replace V2 := hide ((unhide V2).bw y)
  replace V3 := hide ((unhide V3).bw y)
  replace V6 := hide ((unhide V6).bw y)
  have xn := bw_tr x0 y
  clear x0
  have x0 := xn
  clear KS cA cB y V5 xn
  have KS := hide (sameTree_eq ((unhide V3).trd (unhide q3)) ((unhide V6).trd (unhide q3)))
  have cA := (unhide V3).cell
  have cB := (unhide V6).cell
  go_wp2_with fail
  refine (unhide KS).mono ?_
  rintro e S3 ⟨rfl, y⟩
  replace V0 := hide ((unhide V0).bw y)
  replace V1 := hide ((unhide V1).bw y)
  replace V2 := hide ((unhide V2).bw y)
  replace V3 := hide ((unhide V3).bw y)
  have xn := bw_tr x0 y
  clear x0
  have x0 := xn
  clear KS cA cB y V6 xn
  have cV0 := (unhide V0).cell
  obtain ⟨cT, -, -⟩ := unhide HBX _ x0
  go_wp2_with fail
  refine (unhide RL _ x0).mono ?_
  rintro e wa ⟨rfl, y⟩
  have xn := bw_tr x0 y
  replace V0 := hide ((unhide V0).bw y)
  replace V1 := hide ((unhide V1).bw y)
  replace V2 := hide ((unhide V2).bw y)
  replace V3 := hide ((unhide V3).bw y)
  clear x0 y cV0 cT RL
  have ba := (unhide HBX _ xn).2.2
  have hszx := xn.size
  clear HBX xn
  have hsz := ba.size
  go_wp2_with fail
  refine wp_build 70 #[] rfl (by kernel_rfl) ?_
  have hbuilt : (Tryz.prog.built 70 []).getD #[] = bookF 0 (fun _ => .slice none 0 0) := by kernel_rfl
  have hzero : ∀ w, (zeroValue 70).run Tryz.prog w = .ok (.agg (bookF 0 (fun _ => .slice none 0 0))) w := fun w => by kernel_rfl
  have hall : (bookF 0 (fun _ => .slice none 0 0)).all (·.oneCell') = true := by kernel_rfl
  have hsz62 : (Tryz.prog.info? 70).map (·.size) = some (bookF 0 (fun _ => .slice none 0 0)).size := by kernel_rfl
  simp only [List.map_toArray, List.map_nil, hbuilt]
  generalize hBF : bookF 0 (fun _ => .slice none 0 0) = BF at hbuilt hzero hall hsz62 ⊢
  go_upto_region 13 with (refine wpList_store_row rfl 70 (.tmp 22) (.tmp 107) rfl wa.heap.size BF rfl rfl 70 BF (heap_alloc_new _ _) hsz62 rfl hall ?_)
  obtain ⟨W, hW⟩ : ∃ W, W = (wa.alloc (.cells BF 70)).setRow wa.heap.size BF := ⟨_, rfl⟩
  have hblk : W.heap[wa.heap.size]? = some (.cells BF 70 (0, 0)) := by rw [hW]; exact setRow_new9 wa _ _ _
  have hWb : Below wa.heap.size wa W := by rw [hW]; exact setRow_below9 wa _ _ _
  rw [← hW]
  clear hW hbuilt hzero hall hsz62
  obtain ⟨b, hb⟩ : ∃ b, b = wa.heap.size := ⟨_, rfl⟩
  rw [← hb] at hblk ⊢
  have hbB : w.heap.size ≤ b := by omega
  rw [← hBF] at hblk
  clear hBF
  have k0 : Hid (Bo w.heap.size W b 0 W2.heap.size (fun _ => .slice none 0 0) [] [] (fun _ => []) (fun _ => [])) := Bo.start hblk hbB _
  have bW := bw_tr ba hWb
  have s0 := bW.size
  replace V0 := hide ((unhide V0).bw hWb)
  replace V1 := hide ((unhide V1).bw hWb)
  replace V2 := hide ((unhide V2).bw hWb)
  replace V3 := hide ((unhide V3).bw hWb)
  clear hblk hWb hb ba hsz hbB hszx
  have HL0 : Hid (N = T.length) := HN
  have KB := hide (btree_b w.heap.size b _ W2.heap.size WX.heap.size _ _ _ _ _ _ T _ W (unhide k0) s0 (unhide HS2).1 (unhide V0).tr (unhide HS2).2 (unhide V0).lt (unhide V0).ltu (by have := (unhide HSZ2).1; omega) (unhide HSZ2).2)
  have cV := (unhide V0).cell
  clear k0
  go_wp2_with fail
  refine (unhide KB).mono ?_
  rintro e B0 ⟨rfl, ⟨F0, eN0, eD0, XN0, XD0, k0'⟩, tf⟩
  have k0 := hide k0'
  have bn := bW.trans tf.bel
  clear bW
  have bW := bn
  have sn := bW.size
  clear s0
  have s0 := sn
  replace V1 := hide ((unhide V1).tf tf)
  replace V2 := hide ((unhide V2).tf tf)
  replace V3 := hide ((unhide V3).tf tf)
  clear KB cV tf k0' sn bn V0
  have KB := hide (btree_b w.heap.size b _ WX.heap.size Z1.heap.size _ _ _ _ _ _ R1 _ B0 (unhide k0) s0 (Nat.le_trans (unhide HS2).1 (unhide HS2).2) (unhide V1).tr (unhide HS3) (unhide V1).lt (unhide V1).ltu (by have := (unhide HSZ2).1; have := (unhide q1).1; omega) (fun x hx => by have := (unhide q1).2 x hx; omega))
  have cV := (unhide V1).cell
  clear k0
  go_wp2_with fail
  refine (unhide KB).mono ?_
  rintro e B1 ⟨rfl, ⟨F1, eN1, eD1, XN1, XD1, k0'⟩, tf⟩
  have k0 := hide k0'
  have bn := bW.trans tf.bel
  clear bW
  have bW := bn
  have sn := bW.size
  clear s0
  have s0 := sn
  replace V2 := hide ((unhide V2).tf tf)
  replace V3 := hide ((unhide V3).tf tf)
  clear KB cV tf k0' sn bn V1
  have KB := hide (btree_b w.heap.size b _ Z1.heap.size Z2.heap.size _ _ _ _ _ _ R2 _ B1 (unhide k0) s0 (by have := unhide HS2; have := unhide HS3; omega) (unhide V2).tr (unhide HS4) (unhide V2).lt (unhide V2).ltu (by have := (unhide HSZ2).1; have := (unhide q1).1; have := (unhide q2).1; omega) (fun x hx => by have := (unhide q2).2 x hx; omega))
  have cV := (unhide V2).cell
  clear k0
  go_wp2_with fail
  refine (unhide KB).mono ?_
  rintro e B2 ⟨rfl, ⟨F2, eN2, eD2, XN2, XD2, k0'⟩, tf⟩
  have k0 := hide k0'
  have bn := bW.trans tf.bel
  clear bW
  have bW := bn
  have sn := bW.size
  clear s0
  have s0 := sn
  replace V3 := hide ((unhide V3).tf tf)
  clear KB cV tf k0' sn bn V2
  have KB := hide (btree_b w.heap.size b _ Z2.heap.size Z3.heap.size _ _ _ _ _ _ R3 _ B2 (unhide k0) s0 (by have := unhide HS2; have := unhide HS3; have := unhide HS4; omega) (unhide V3).tr (unhide HS5) (unhide V3).lt (unhide V3).ltu (by have := (unhide HSZ2).1; have := (unhide q1).1; have := (unhide q2).1; have := (unhide q3).1; omega) (fun x hx => by have := (unhide q3).2 x hx; omega))
  have cV := (unhide V3).cell
  clear k0
  go_wp2_with fail
  refine (unhide KB).mono ?_
  rintro e B3 ⟨rfl, ⟨F3, eN3, eD3, XN3, XD3, k0'⟩, tf⟩
  have k0 := hide k0'
  have bn := bW.trans tf.bel
  clear bW
  have bW := bn
  have sn := bW.size
  clear s0
  have s0 := sn
  clear KB cV tf k0' sn bn V3
  have A := hide ((unhide k0).apart s0 (by have := unhide HL0; have := (unhide HSZ2).1; have := (unhide q1).1; have := (unhide q2).1; have := (unhide q3).1; omega))
  clear k0
  go_wp2_with fail
  refine (unhide A).mono ?_
  rintro e wf ⟨rfl, bF⟩
  have bG := bW.trans bF
  clear A
  go_wp2_with fail
  refine (unhide KE wf bG).mono ?_
  rintro e w9 ⟨rfl, hb9⟩
  go_wp2
  go_ret
  exact ⟨rfl, hb9⟩
end Go.Proofs.YtpgppnmobbgefaaGreatDoor
