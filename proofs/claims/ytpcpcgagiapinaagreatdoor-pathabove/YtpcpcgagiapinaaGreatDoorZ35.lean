/- Texts joined: PcQ PcR PdLawAbove. -/
import Derived.Test.YtpcpcgagiapinaaGreatDoorZ31
import Derived.Test.YtpcpcgagiapinaaGreatDoorZ15
import Derived.Test.YtpcpcgagiapinaaGreatDoorZ17
import Derived.Test.YtpcpcgagiapinaaGreatDoorZ34
import Derived.Test.YtpcpcgagiapinaaGreatDoorZ13
/- What all statements of layer 9 end with: a path of the first leaf, opened by the second one. -/
namespace Go.Proofs.YtpcpcgagiapinaaGreatDoor.Tn.Pa
open Go.RowKit Go.Maps
theorem otr_same {B : Nat} {w w' : World} {b : Nat} {sv : Value} {mb : Nat} {L : List Tm} {v : Value} {T : List Nd} {us : List Value} (h : OTr B w v T us) (hs : St w b sv mb L) (hf : Fr (foot b sv mb) w w') : OTr B w' v T us := by
  refine ⟨h.ul, own_keep h.row (fun k hk => ?_), fun i n u h1 h2 => own_keep (h.un i n u h1 h2) (fun k hk => ?_), h.apart⟩
  · obtain ⟨cur, e⟩ := own_kind h.row hk
    exact hf.block k (lt_of_blk e) (hs.notin e (by decide) (by decide))
  · obtain ⟨cur, e⟩ := own_kind (h.un i n u h1 h2) hk
    exact hf.block k (lt_of_blk e) (hs.notin e (by decide) (by decide))
theorem otr_fix {B : Nat} {w : World} {b : Nat} {sv : Value} {mb : Nat} {L : List Tm} {v : Value} {T : List Nd} {us : List Value} (h : OTr B w v T us) (hs : St w b sv mb L) : Tfix (fun W => Fr (foot b sv mb) w W) v T := by
  rcases Nat.eq_zero_or_pos T.length with h0 | h0
  · obtain ⟨a, c, hv⟩ := own_slice h.row
    exact Or.inl ⟨List.eq_nil_of_length_eq_zero h0, a, c, by rw [hv, h0]⟩
  · obtain ⟨g, cap, hv, hg, hc, _⟩ := own_open h.row h0
    refine Or.inr ⟨g, 0, cap, fun i => us.getD i default, hv, fun W hW i hi => ?_⟩
    have h' := otr_same h hs hW
    have hlt : i < us.length := by rw [h.ul]; exact hi
    have hu : us[i]? = some us[i] := List.getElem?_eq_getElem hlt
    have hn := ndAt_of hi
    have e : v.ownBlock = some g := by rw [hv]; rfl
    have eu : us.getD i default = us[i] := by simp [List.getD, hu]
    simp only [eu]
    refine ⟨⟨?_, ?_, ?_, ?_⟩, (h'.un i _ _ hn hu).nums⟩
    · simpa using own_cell h'.row e (treeC_get hn hu (j := 0) rfl)
    · simpa using own_cell h'.row e (treeC_get hn hu (j := 1) rfl)
    · simpa using own_cell h'.row e (treeC_get hn hu (j := 2) rfl)
    · simpa using own_cell h'.row e (treeC_get hn hu (j := 3) rfl)
def tw0 : List Tm := [⟨1, 1, 0, 0⟩, ⟨1, 2, 0, 0⟩, ⟨5, 0, 1, 0⟩, ⟨5, 0, 2, 0⟩]
theorem terms4 (w : World) : Tms (w.alloc (.cells #[.int .u8 1, .int .i64 1, .int .i64 0, .int .i64 0, .int .u8 1, .int .i64 2, .int .i64 0, .int .i64 0, .int .u8 5, .int .i64 0, .int .i64 1, .int .i64 0, .int .u8 5, .int .i64 0, .int .i64 2, .int .i64 0] 64)) (.slice (some ⟨w.heap.size, 0, none⟩) 4 4) tw0 := by
  refine ⟨_, 4, rfl, by simp [tw0], Or.inr ⟨w.heap.size, 0, rfl, fun i t hi => ?_⟩⟩
  unfold TAt World.cell?
  simp only [heap_alloc_new]
  match i, hi with
  | 0, hi | 1, hi | 2, hi | 3, hi => simp [tw0] at hi; subst hi; exact ⟨rfl, rfl, rfl, rfl⟩
  | i + 4, hi => simp [tw0] at hi
def twA : List Nd := addR [] 5 0 3
def twT : List Nd := addR twA 6 0 4
theorem twA_is : twA = [⟨3, 5, 0, []⟩] := by unfold twA; kernel_rfl
theorem twT_is : twT = [⟨3, 5, 0, []⟩, ⟨0, 0, 0, []⟩, ⟨4, 6, 0, []⟩] := by unfold twT; rw [twA_is]; kernel_rfl
theorem tw_fill : fillL [] tw0 = tw0 := by decide +kernel
set_option maxRecDepth 100000 in
set_option maxHeartbeats 4000000 in
theorem two_any (w : World) : Calls Tryz.prog 46 #[] w fun e w' => ∃ b sv mb rb r us, e = .returned (.tuple #[.pointer (some ⟨b, 0, none⟩), .pointer (some ⟨rb, 0, none⟩), .agg #[r], .bool true]) ∧ EF [] w w' [resS b sv mb tw0, resT r twT us] := by
  obtain ⟨A, hA⟩ : ∃ A, A = w.heap.size := ⟨_, rfl⟩
  obtain ⟨V0, hV0⟩ : ∃ V0, V0 = w.alloc (.cells #[nilV] 44) := ⟨_, rfl⟩
  obtain ⟨W0, hW0⟩ : ∃ W0, W0 = V0.alloc (.cells #[.int .u8 1, .int .i64 1, .int .i64 0, .int .i64 0, .int .u8 1, .int .i64 2, .int .i64 0, .int .i64 0, .int .u8 5, .int .i64 0, .int .i64 1, .int .i64 0, .int .u8 5, .int .i64 0, .int .i64 2, .int .i64 0] 64) := ⟨_, rfl⟩
  have E0 : EF [] w W0 [resC A #[nilV] 44] := by rw [hW0, hV0, hA]; exact ((EF.nil w).newC #[nilV] 44).new (bwA' _ _)
  have KB := build_any W0 (some ⟨V0.heap.size, 0, none⟩) 4 tw0 (by rw [hW0]; exact terms4 V0) (by intro t ht; simp [tw0] at ht; rcases ht with rfl | rfl | rfl | rfl <;> constructor <;> simp) (by simp [tw0])
  rw [tw_fill] at KB
  have KB2 := hide KB
  have HE0 := hide E0
  have HW := hide (And.intro hV0 (And.intro hW0 hA))
  clear hW0 hV0 KB E0 hA
  go_enter Tryz.func46, Tryz.ntmps46
  go_upto_region 1 with fail
  rw [← (unhide HW).1, ← (unhide HW).2.2]
  go_wp2_with fail
  rw [← (unhide HW).2.1]
  refine (unhide KB2).mono ?_
  rintro e w1 ⟨b, sv, mb, rb, rv, rfl, tw⟩
  have HE1 := hide ((unhide HE0).add (resS b sv mb tw0) tw.bel tw.st tw.low)
  have KN : Hid (Calls Tryz.prog 59 #[.agg #[.int .i64 5, .int .i64 0, .int .i64 3]] w1 fun e w' => ∃ r us, e = .returned (.tuple #[.agg #[r], .int .i64 (addE [] 5 0 3)]) ∧ OTr w1.heap.size w' r twA us ∧ Below w1.heap.size w1 w') := Go.Proofs.YtpcpcgagiapinaaGreatDoor.rnew_any 5 0 3
  clear tw KB2 HW HE0
  go_wp2_with fail
  refine (unhide KN).mono ?_
  rintro e w2 ⟨r, us, rfl, ho, y⟩
  obtain ⟨ra, rc, hre⟩ := own_slice ho.row
  subst hre
  obtain ⟨n1, hn1⟩ : ∃ n1, n1 = twA.length := ⟨_, rfl⟩
  rw [← hn1] at ho
  have E2 := ((unhide HE1).new y).newC #[.slice ra n1 rc] 44
  obtain ⟨w3, hw3⟩ : ∃ w3, w3 = w2.alloc (.cells #[.slice ra n1 rc] 44) := ⟨_, rfl⟩
  obtain ⟨B, hB⟩ : ∃ B, B = w2.heap.size := ⟨_, rfl⟩
  rw [← hw3, ← hB] at E2
  have O3 : OTr w1.heap.size w3 (.slice ra n1 rc) twA us := by rw [hw3]; exact ho.bw (bwA' _ _)
  have KA : Hid (Calls Tryz.prog 60 #[.agg #[.slice ra n1 rc], .agg #[.int .i64 6, .int .i64 0, .int .i64 4]] w3 fun e w' => ∃ r us, e = .returned (.tuple #[.agg #[r], .int .i64 (addA twA 6 0 4 : Nat), .int .i64 (addE twA 6 0 4)]) ∧ OTr w3.heap.size w' r twT us ∧ Below w3.heap.size w3 w') := Go.Proofs.YtpcpcgagiapinaaGreatDoor.radd_any (O3.trd (by rw [twA_is]; simp) (by rw [twA_is]; simp)) 6 0 4
  have c3 := blk_cell (i := 0) (show w3.heap[B]? = some (.cells #[.slice ra n1 rc] 44 (0, 0)) from E2.hd) rfl
  have HW3 := hide (And.intro hw3 (And.intro hB hn1))
  have HE2 := hide E2
  clear ho y hw3 O3 hB hn1 KN HE1 E2
  rw [← (unhide HW3).2.2]
  rw [← (unhide HW3).2.2] at HW3
  go_upto_region 3 with fail
  rw [← (unhide HW3).1, ← (unhide HW3).2.1]
  clear HW3
  go_wp2_with fail
  refine (unhide KA).mono ?_
  rintro e w4 ⟨r2, us2, rfl, ho, y⟩
  obtain ⟨ra2, rc2, hre⟩ := own_slice ho.row
  subst hre
  obtain ⟨n2, hn2⟩ : ∃ n2, n2 = twT.length := ⟨_, rfl⟩
  rw [← hn2] at ho ⊢
  have E4 := (unhide HE2).add (resT (.slice ra2 n2 rc2) twT us2) y (OTr.mono ho (Nat.zero_le _)) (fun x hx => (OTr.ltZ ho x hx).1)
  have hb4 : w4.heap[B]? = some (.cells #[.slice ra n1 rc] 44 (0, 0)) := E4.nth 1 rfl
  have y0 := blk_cell (i := 0) hb4 rfl
  have yf := blk_froz (i := 0) hb4
  have E5 := (E4.up 1 rfl).poke (i := 0) (.slice ra2 n2 rc2)
  obtain ⟨w5, hw5⟩ : ∃ w5, w5 = w4.setCell ⟨B, 0, none⟩ (.slice ra2 n2 rc2) := ⟨_, rfl⟩
  rw [← hw5] at E5
  have HW5 := hide hw5
  have HE5 := hide E5
  clear KA ho y hb4 E4 E5 HE2 c3 hw5 hn2
  go_upto_region 4 with fail
  rw [← unhide HW5]
  clear HW5 y0 yf
  have E6 := (unhide HE5).new (bw_drewA w5)
  have hA6 : w5.drew.heap[A]? = some (.cells #[nilV] 44 (0, 0)) := E6.nth 3 rfl
  have hA5 : w5.heap[A]? = some (.cells #[nilV] 44 (0, 0)) := (unhide HE5).nth 3 rfl
  have y0 := blk_cell (i := 0) hA6 rfl
  have yf := blk_froz (i := 0) hA6
  have y1 := blk_cell (i := 0) hA5 rfl
  have yg := blk_froz (i := 0) hA5
  have E7 := (((unhide HE5).up 3 rfl).poke (i := 0) (.slice ra2 n2 rc2)).new (bw_drewA _)
  have S0 : w5.cell? ⟨B, 0, none⟩ = some (.slice ra2 n2 rc2) := blk_cell (i := 0) (show w5.heap[B]? = some (.cells #[.slice ra2 n2 rc2] 44 (0, 0)) from (unhide HE5).hd) rfl
  have S1 : w5.drew.cell? ⟨B, 0, none⟩ = some (.slice ra2 n2 rc2) := blk_cell (i := 0) (show w5.drew.heap[B]? = some (.cells #[.slice ra2 n2 rc2] 44 (0, 0)) from E6.hd) rfl
  have S2 : (w5.setCell ⟨A, 0, none⟩ (.slice ra2 n2 rc2)).drew.cell? ⟨B, 0, none⟩ = some (.slice ra2 n2 rc2) := blk_cell (i := 0) (show (w5.setCell ⟨A, 0, none⟩ (.slice ra2 n2 rc2)).drew.heap[B]? = some (.cells #[.slice ra2 n2 rc2] 44 (0, 0)) from E7.nth 1 rfl) rfl
  have hA7 : (w5.setCell ⟨A, 0, none⟩ (.slice ra2 n2 rc2)).drew.cell? ⟨A, 0, none⟩ = some (.slice ra2 n2 rc2) := blk_cell (i := 0) (show (w5.setCell ⟨A, 0, none⟩ (.slice ra2 n2 rc2)).drew.heap[A]? = some (.cells #[.slice ra2 n2 rc2] 44 (0, 0)) from E7.hd) rfl
  have HF := hide (((E7.up 3 rfl).up 3 rfl).up 1 rfl)
  clear HE5 E6 E7 hA6 hA5
  go_region_held3 (fun w' : World => w'.cell? ⟨B, 0, none⟩ = some (.slice ra2 n2 rc2)) (first | with_reducible exact S0 | with_reducible exact S1 | with_reducible exact S2 | go_keep) (fail)
  clear S0 S1 S2 y0 yf y1 yg
  go_wp2_with fail
  exact bodyPost_ret (v := .tuple #[.pointer (some ⟨b, 0, none⟩), .pointer (some ⟨rb, 0, none⟩), .agg #[.slice ra2 n2 rc2], .bool true]) (by simp [results, Tryz.results46, go_sem, hA7]) rfl ⟨b, sv, mb, rb, _, us2, rfl, (unhide HF).sub (.cons_cons _ (.cons_cons _ (List.nil_sublist _)))⟩
end Go.Proofs.YtpcpcgagiapinaaGreatDoor.Tn.Pa

/- What all statements of layer 9 end with: lives. -/
namespace Go.Proofs.YtpcpcgagiapinaaGreatDoor.Tn.Pa
open Go.RowKit Go.Maps
def tw1 : List Tm := [⟨1, 1, 0, 0⟩, ⟨1, 2, 0, 0⟩, ⟨5, 0, 1, 0⟩, ⟨5, 0, 2, 0⟩, ⟨4, 1, 1, 0⟩, ⟨4, 1, 5, 0⟩, ⟨4, 2, 1, 0⟩, ⟨5, 0, 7, 0⟩, ⟨4, 2, 5, 0⟩, ⟨5, 0, 9, 0⟩, ⟨6, 0, 4, 5⟩]
def twU : List Nd := [⟨8, 5, 5, []⟩, ⟨10, 0, 0, []⟩, ⟨4, 6, 0, []⟩]
theorem lf_Q : nrQ twT (mkPl twT 0) (tgt twT 0 []) (tw0, 1) = (tw1, [(1, 2, 11)]) := by rw [twT_is]; kernel_rfl
theorem lf_K : (nrK (mkPl twT 0) (tw0, 1)).2.1 = [(0, 7), (1, 9)] := by rw [twT_is]; kernel_rfl
theorem lf_T : mkT twT 0 5 (tw0, 1) = twU := by rw [twT_is]; kernel_rfl
theorem lf_S : (sec (tw0, 1) (mkPl twT 0).length).2 = 6 := by rw [twT_is]; kernel_rfl
theorem lf_h0 : heldB tw0 twT = true ∧ hasL twT 0 = true := by rw [twT_is]; decide +kernel
theorem lf_h1 : heldB tw1 twU = true ∧ hasL twU 0 = true ∧ hasL twU 1 = true := by decide +kernel
theorem lf_j : jntE twU 1 0 = 1 := by kernel_rfl
theorem lf_o : opR tw1 1 (fstM [(2, 2)]) [(1, 2, 11)] = some 5 := by kernel_rfl
theorem lf_a : abR tw1 twU 1 5 = some ([(1, 9)], 5) := by kernel_rfl
theorem lf_n : mkN tw1 ⟨4, 1, 5, 0⟩ = 6 := by kernel_rfl
theorem lf_m : (opM tw1 twU [(2, 2)] ([(1, 9)], 5)).length = 2 := by kernel_rfl
theorem mkO_tw (b : Nat) (sv : Value) (mb : Nat) (r kv qv : Value) (us : List Value) : mkO b sv mb twT 0 5 [] (tw0, 1) r kv qv us = [resS b sv mb tw1, resT r twU us, resW 71 2 kv 2 (kysC (srt [(0, 7), (1, 9)])), resW 76 3 qv 1 (slsC [(1, 2, 11)])] := by
  unfold mkO
  rw [lf_Q, lf_K, lf_T]
  rfl
theorem nums_nil (w : World) : Nums w nilV [] := Or.inl ⟨rfl, none, 0, rfl, fun _ => rfl⟩
set_option maxRecDepth 100000 in
set_option maxHeartbeats 4000000 in
theorem lives9 {w0 w : World} (hT : Tab w0) (hb0 : Below w0.heap.size w0 w) : Calls Tryz.prog 15 #[] w fun e w' => e = .returned (.bool true) ∧ Below w0.heap.size w0 w' := by
  have KT := hide (two_any w)
  have HX := hide (And.intro hT hb0)
  clear hT hb0
  go_enter Tryz.func15, Tryz.ntmps15
  go_wp2_with fail
  refine (unhide KT).mono ?_
  rintro e w1 ⟨b, sv, mb, rb, r, us, rfl, E1⟩
  obtain ⟨ra, rc, hre⟩ := own_slice (show OTr 0 w1 r twT us from E1.nth 1 rfl).row
  subst hre
  obtain ⟨n1, hn1⟩ : ∃ n1, n1 = twT.length := ⟨_, rfl⟩
  rw [← hn1] at E1 ⊢
  have E2 := (E1.newC #[.slice ra n1 rc] 44).up 1 rfl
  obtain ⟨w2, hw2⟩ : ∃ w2, w2 = w1.alloc (.cells #[.slice ra n1 rc] 44) := ⟨_, rfl⟩
  obtain ⟨A, hA⟩ : ∃ A, A = w1.heap.size := ⟨_, rfl⟩
  rw [← hw2, ← hA] at E2
  have c2 := blk_cell (i := 0) (show w2.heap[A]? = some (.cells #[.slice ra n1 rc] 44 (0, 0)) from E2.nth 1 rfl) rfl
  have s2 : St w2 b sv mb tw0 := E2.hd
  have KM : Hid (Calls Tryz.prog 23 #[.pointer (some ⟨b, 0, none⟩), .agg #[.slice ra n1 rc], .int .i64 0, .int .i64 5, .int .i64 1, nilV] w2 fun e w' => ∃ r kv qv us', e = .returned (.tuple #[.agg #[r], kv, qv, .int .i64 6, .int .i64 0]) ∧ ∃ sv', EF [] w w' ([resS b sv' mb tw1, resT r twU us', resW 71 2 kv 2 (kysC (srt [(0, 7), (1, 9)])), resW 76 3 qv 1 (slsC [(1, 2, 11)])] ++ [resC A #[.slice ra n1 rc] 44, resT (.slice ra n1 rc) twT us])) := by
    have hl : ∀ x ∈ foot b sv mb, w.heap.size ≤ x := fun x hx => (E2.low (resS b sv mb tw0) (by simp) x hx).resolve_left (by simp)
    have hB2 : Below w0.heap.size w0 w2 := bw_tr (unhide HX).2 E2.toB
    refine (pMake_ok (w := w2) (tw0, 1) twT (.slice ra n1 rc) nilV 0 5 [] s2 ⟨by simp, by simp [tw0]⟩ (otr_fix (show OTr 0 w2 (.slice ra n1 rc) twT us from E2.nth 2 rfl) s2) (fun W hW => (unhide HX).1.bw (Fr.toBase hB2 hW (fun x hx => Nat.le_trans (unhide HX).2.size (hl x hx)))) (nums_nil _) lf_h0.1 lf_h0.2 (by omega) (by simp [tw0])).mono ?_
    rintro e w' ⟨r', kv, qv, us', rfl, sv', k⟩
    rw [mkO_tw] at k
    rw [lf_S]
    exact ⟨r', kv, qv, us', rfl, sv', E2.join k⟩
  have HW := hide (And.intro hw2 hA)
  clear KT E1 E2 hw2 hA hn1 s2
  go_upto_region 4 with fail
  rw [← (unhide HW).1, ← (unhide HW).2]
  clear HW
  go_wp2_with fail
  refine (unhide KM).mono ?_
  rintro e w3 ⟨r2, kv, qv, us2, rfl, sv2, E3⟩
  obtain ⟨ra2, rc2, hre⟩ := own_slice (show OTr 0 w3 r2 twU us2 from E3.nth 1 rfl).row
  subst hre
  obtain ⟨ka, kc, hke⟩ := own_slice (show w3.ownsRow 0 71 2 kv 2 (kysC (srt [(0, 7), (1, 9)])) from E3.nth 2 rfl)
  subst hke
  obtain ⟨qa, qc, hqe⟩ := own_slice (show w3.ownsRow 0 76 3 qv 1 (slsC [(1, 2, 11)]) from E3.nth 3 rfl)
  subst hqe
  obtain ⟨n2, hn2⟩ : ∃ n2, n2 = twU.length := ⟨_, rfl⟩
  rw [← hn2] at E3 ⊢
  have E4 := E3.newC #[.slice ra2 n2 rc2] 44
  obtain ⟨w4, hw4⟩ : ∃ w4, w4 = w3.alloc (.cells #[.slice ra2 n2 rc2] 44) := ⟨_, rfl⟩
  obtain ⟨B, hB⟩ : ∃ B, B = w3.heap.size := ⟨_, rfl⟩
  rw [← hw4, ← hB] at E4
  have c4 := blk_cell (i := 0) (show w4.heap[B]? = some (.cells #[.slice ra2 n2 rc2] 44 (0, 0)) from E4.hd) rfl
  have E5 := (E4.newC #[.int .i64 2, .int .i64 2] 71).up 2 rfl
  obtain ⟨w5, hw5⟩ : ∃ w5, w5 = w4.alloc (.cells #[.int .i64 2, .int .i64 2] 71) := ⟨_, rfl⟩
  obtain ⟨C, hC⟩ : ∃ C, C = w4.heap.size := ⟨_, rfl⟩
  rw [← hw5, ← hC] at E5
  have KO : Hid (Calls Tryz.prog 24 #[.pointer (some ⟨b, 0, none⟩), .agg #[.slice ra2 n2 rc2], .int .i64 0, .int .i64 1, .slice (some ⟨C, 0, none⟩) 1 1, .slice qa 1 qc] w5 fun e w' => ∃ rv, e = .returned (.tuple #[rv, .int .i64 6, .int .i64 0]) ∧ (∃ a c, rv = .slice a 2 c) ∧ Below w0.heap.size w0 w') := by
    have s5 : St w5 b sv2 mb tw1 := E5.hd
    have hl : ∀ x ∈ foot b sv2 mb, w.heap.size ≤ x := fun x hx => (E5.low (resS b sv2 mb tw1) (List.mem_cons_self ..) x hx).resolve_left (by simp)
    have hB5 : Below w0.heap.size w0 w5 := bw_tr (unhide HX).2 E5.toB
    have hd := List.pairwise_cons.1 E5.dis
    have hC5 : w5.heap[C]? = some (.cells #[.int .i64 2, .int .i64 2] 71 (0, 0)) := E5.nth 1 rfl
    have hk : Kfix (fun W => Fr (foot b sv2 mb) w5 W) (.slice (some ⟨C, 0, none⟩) 1 1) [(2, 2)] := by
      refine ⟨_, 1, rfl, fun _ => ⟨C, 0, rfl, fun V hV i p hp => ?_⟩⟩
      have hv : V.heap[C]? = some (.cells #[.int .i64 2, .int .i64 2] 71 (0, 0)) := (hV.block C (lt_of_blk hC5) (fun c => hd.1 _ (List.mem_cons_self ..) C c (by simp [resC]))).trans hC5
      cases i with
      | zero => simp at hp; subst hp; exact ⟨blk_cell (i := 0) hv rfl, blk_cell (i := 1) hv rfl⟩
      | succ i => simp at hp
    have hqr : w5.ownsRow 0 76 3 (.slice qa 1 qc) 1 (slsC [(1, 2, 11)]) := E5.nth 5 rfl
    have hq : Sfix (fun W => Fr (foot b sv2 mb) w5 W) (.slice qa 1 qc) [(1, 2, 11)] := (sfix_own hqr rfl).mono fun V hV k hk => by
      obtain ⟨cur, e⟩ := own_kind hqr hk
      exact hV.block k (lt_of_blk e) (s5.notin e (by decide) (by decide))
    refine (open_ok (w := w5) s5 (otr_fix (show OTr 0 w5 (.slice ra2 n2 rc2) twU us2 from E5.nth 3 rfl) s5) (fun W hW => (unhide HX).1.bw (Fr.toBase hB5 hW (fun x hx => Nat.le_trans (unhide HX).2.size (hl x hx)))) lf_h1.1 0 1 lf_h1.2.1 lf_h1.2.2 (by decide) 1 lf_j (by simp [twU]) hk hq (by intro p hp; simp at hp; subst hp; unfold i64b; omega) (by intro p hp; simp at hp; subst hp; exact ⟨by decide, by decide⟩) (by simp) (by simp) 5 lf_o (by decide +kernel) ([(1, 9)], 5) lf_a (by intro p hp; rw [show srt [((1 : Int), (9 : Int))] = [(1, 9)] from rfl] at hp; simp at hp; subst hp; unfold i64b; omega) (by simp) (by simp [tw1])).mono ?_
    rintro e w' ⟨rv, sv', rs, rfl, k⟩
    rw [lf_n]
    rw [lf_m] at k
    obtain ⟨a, c, hrv⟩ := own_slice (show w'.ownsRow 0 71 2 rv 2 _ from k.nth 1 rfl)
    exact ⟨rv, rfl, ⟨a, c, hrv⟩, bw_tr (unhide HX).2 (E5.join k).toB⟩
  have HW := hide (And.intro hw4 (And.intro hB (And.intro hw5 hC)))
  clear KM E3 E4 E5 hw4 hB hw5 hC hn2 c2
  go_upto_region 5 with fail
  rw [← (unhide HW).1, ← (unhide HW).2.1]
  go_wp2_with fail
  rw [← (unhide HW).2.2.1, ← (unhide HW).2.2.2]
  clear HW
  refine (unhide KO).mono ?_
  rintro e w6 ⟨rv, rfl, ⟨a, c, rfl⟩, b6⟩
  clear KO c4
  go_wp2
  go_ret
  exact ⟨rfl, b6⟩
end Go.Proofs.YtpcpcgagiapinaaGreatDoor.Tn.Pa

/- PathAbove, the walk. -/
namespace Go.Proofs.YtpcpcgagiapinaaGreatDoor.Tn.Pa
open Go.RowKit Go.Maps
set_option maxRecDepth 100000 in
set_option maxHeartbeats 8000000 in
theorem PathAbove_walk (w : World) (hT : Tab w) (la : Option Addr) (lc : Nat) (l : List Tm) (hl : Tms w (.slice la l.length lc) l) (hok : ∀ t ∈ l, t.ok) (v : Value) (T : List Nd) (h : Trd w v T) (nd sc : Int) :
    Calls Tryz.prog 4 #[.slice la l.length lc, .agg #[v], .int .i64 nd, .int .i64 sc] w fun e w' => e = .returned (.bool true) ∧ Below w.heap.size w w' := by
  obtain ⟨a, c, rfl⟩ := h.slice
  obtain ⟨W0, hW0⟩ : ∃ W0, W0 = w.alloc (.cells #[.slice a T.length c] 44) := ⟨_, rfl⟩
  have x0 : Below w.heap.size w W0 := by rw [hW0]; exact bwA' _ _
  have k0 : W0.heap[w.heap.size]? = some (.cells #[.slice a T.length c] 44 (0, 0)) := by rw [hW0]; exact heap_alloc_new _ _
  have KT := Go.Proofs.YtpcpcgagiapinaaGreatDoor.treeSize2_any (h.bw x0)
  obtain ⟨N, hN⟩ : ∃ N, N = T.length := ⟨_, rfl⟩
  obtain ⟨M, hM⟩ : ∃ M, M = l.length := ⟨_, rfl⟩
  have hlen := (hl.get).1
  rw [← hM] at hlen ⊢
  rw [← hN] at KT hW0 k0 ⊢
  have HW := hide hW0
  have HBX : Hid (∀ W, Below W0.heap.size W0 W → W.cell? ⟨w.heap.size, 0, none⟩ = some (.slice a N c) ∧ Below w.heap.size w W) := fun W hW => ⟨blk_cell (kept_blk k0 hW) rfl, bw_tr x0 hW⟩
  have HH := hide (And.intro hT (And.intro h (And.intro hN (And.intro hl (And.intro hok hM)))))
  have KT2 := hide KT
  have hMI : (M : Int) ≤ 140737488355328 := by omega
  have KE : Hid (∀ W, Below w.heap.size w W → Calls Tryz.prog 15 #[] W fun e w' => e = .returned (.bool true) ∧ Below w.heap.size w w') := fun W hW => lives9 hT hW
  have c0 := blk_cell (i := 0) k0 rfl
  clear hT h hN hl hok hM KT hW0 x0 k0
  by_cases hbig : 2000 < M
  · have hbI : (2000 : Int) < (M : Int) := by omega
    clear hlen
    go_enter Tryz.func4, Tryz.ntmps4
    go_upto_region 1 with fail
    rw [← unhide HW]
    go_wp2
    go_ret
    exact ⟨rfl, (unhide HBX _ (Below.refl _ _)).2⟩
  have hsm : (M : Int) ≤ 2000 := by omega
  have hsmN : M ≤ 2000 := by omega
  have hsmH := hide hsmN
  clear hbig hlen hsmN
  go_enter Tryz.func4, Tryz.ntmps4
  go_upto_region 1 with fail
  rw [← unhide HW]
  go_wp2_with fail
  refine (unhide KT2).mono ?_
  rintro e W1 ⟨n, rfl, hn, hsum, b1⟩
  have b2 : Below W0.heap.size W0 (W1.alloc (.cells #[.int .i64 (n : Int)] 3)) := b1.alloc b1.size _
  have KBy := hide (Go.Proofs.YtpcpcgagiapinaaGreatDoor.beyond8 W1.heap.size n 1 (W1.alloc (.cells #[.int .i64 (n : Int)] 3)) hn (blk_cell (heap_alloc_new W1 _) rfl))
  obtain ⟨WB, hWB⟩ : ∃ WB, WB = W1.alloc (.cells #[.int .i64 (n : Int)] 3) := ⟨_, rfl⟩
  rw [← hWB] at KBy b2
  have HWB := hide hWB
  have B2 := hide b2
  clear hWB KT2 HW hn b1 hsum b2 c0
  generalize decide (262144 < n) = by_ at *
  obtain ⟨c0, hbw⟩ := unhide HBX _ (unhide B2)
  go_wp2_with fail
  rw [← unhide HWB]
  refine (unhide KBy).mono ?_
  rintro e WB ⟨rfl, rfl⟩
  clear KBy HWB
  cases by_
  rotate_left
  · go_wp2_with fail
    go_ret
    exact ⟨rfl, hbw⟩
  have hbwH := hide hbw
  clear hbw
  have KB : Hid (Calls Tryz.prog 7 #[.slice la M lc] WB fun e w' => ∃ b sv mb rb rv, e = .returned (.tuple #[.pointer (some ⟨b, 0, none⟩), .pointer (some ⟨rb, 0, none⟩), .bool true]) ∧ Two WB w' b sv mb rb rv (fillL [] l) (fillL [] l)) := by
    obtain ⟨-, -, -, hl, hok, hM⟩ := unhide HH
    have := build_any WB la lc l (by have := hl.bw (unhide hbwH); exact this) hok (by have := unhide hsmH; omega)
    rw [← hM] at this
    exact this
  obtain ⟨L0, hL0⟩ : ∃ L0, L0 = fillL [] l := ⟨_, rfl⟩
  have hL0l : Hid (L0.length ≤ 2000) := by have := fillL_len l []; have := unhide hsmH; have := (unhide HH).2.2.2.2.2; unfold Hid; rw [hL0]; simp at *; omega
  rw [← hL0] at KB
  have HBW : Hid (∀ W, Below WB.heap.size WB W → W.cell? ⟨w.heap.size, 0, none⟩ = some (.slice a N c) ∧ Below w.heap.size w W) := fun W hW => unhide HBX W (bw_tr (unhide B2) hW)
  clear hL0 HBX
  go_wp2_with fail
  refine (unhide KB).mono ?_
  rintro e W3 ⟨b, sv, mb, rb, rv, rfl, tw⟩
  have c3 := (unhide HBW W3 tw.bel).1
  have K3 : Hid (Calls Tryz.prog 18 #[.pointer (some ⟨b, 0, none⟩), .agg #[.slice a N c], .int .i64 nd, .int .i64 sc] W3 fun e W1 => ∃ v1 c1 e1, e = .returned (.tuple #[v1, .int .i64 ((c1 : Nat) : Int), .int .i64 e1]) ∧ Below WB.heap.size WB W1 ∧ Calls Tryz.prog 19 #[.pointer (some ⟨rb, 0, none⟩), .agg #[.slice a N c], .int .i64 nd, .int .i64 sc] W1 fun e W2 => ∃ v2, e = .returned (.tuple #[v2, .int .i64 (c1 : Int), .int .i64 e1]) ∧ abvE WB b rb v1 v2 c1 W2) := by
    obtain ⟨hT, h, hN, -⟩ := unhide HH
    have := abv9 (EF.two tw) (h.bw (unhide hbwH)) (hT.bw (unhide hbwH)) nd sc (unhide hL0l)
    rw [← hN] at this
    exact this
  clear tw KB c0
  go_wp2_with fail
  refine (unhide K3).mono ?_
  rintro e W4 ⟨v1, c1, e1, rfl, b4, K4⟩
  have c4 := (unhide HBW W4 b4).1
  have HK4 := hide K4
  clear K3 c3 b4 K4
  go_wp2_with fail
  refine (unhide HK4).mono ?_
  rintro e W5 ⟨v2, rfl, b5, K5⟩
  have HK5 := hide K5
  clear HK4 c4 b5 K5
  go_wp2_with fail
  refine (unhide HK5).mono ?_
  rintro e W6 ⟨mp, rfl, K6⟩
  have HK6 := hide K6
  clear HK5 K6
  go_wp2_with fail
  refine (unhide HK6).mono ?_
  rintro e W7 ⟨rfl, b7, K7⟩
  have HK7 := hide K7
  have KL := hide (unhide KE W7 (unhide HBW W7 b7).2)
  clear HK6 K7 b7
  go_wp2_with fail
  refine (unhide HK7).mono ?_
  rintro e W8 ⟨rfl, rfl⟩
  clear HK7
  go_wp2_with fail
  refine (unhide KL).mono ?_
  rintro e V9 ⟨rfl, y⟩
  clear KL
  go_wp2
  go_ret
  exact ⟨rfl, y⟩
end Go.Proofs.YtpcpcgagiapinaaGreatDoor.Tn.Pa
