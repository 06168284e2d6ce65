/- Contracts of missing, canMake, opener and wait of package deduce. -/
import Derived.Test.YtkaioidneknmjaaNDdMem
import Derived.Test.YtkaioidneknmjaaNTmB
import Derived.Deep.QuietTactic
import Derived.Deep.RegionHeld3
import Derived.Test.YtkaioidneknmjaaNTmI
namespace Go.Proofs.Ytkaioidneknmjaa.Tn
open Go.RowKit Go.Maps

theorem kmissing_any (kb : Nat) (p : Addr) (w : World) (c0 : w.cell? ⟨kb, 0, none⟩ = some (.pointer (some p))) :
    Calls Try.prog 41 #[.pointer (some ⟨kb, 0, none⟩)] w fun e w' => e = .returned (.bool false) ∧ w' = w := by
  go_enter Try.func41, Try.ntmps41
  go_wp2
  go_ret
  exact ⟨rfl, rfl⟩
theorem kmissing_nil (w : World) :
    Calls Try.prog 41 #[.pointer none] w fun e w' => e = .returned (.bool true) ∧ w' = w := by
  go_enter Try.func41, Try.ntmps41
  go_wp2
  go_ret
  exact ⟨rfl, rfl⟩

/-- The row of marks, open. -/
theorem Kn.marks {w : World} {kb : Nat} {fv tv lv : Value} {b : Nat} {F : List Bool} {fs : List Nat} {ls : List (Nat × Nat)} (h : Kn w kb fv tv lv b F fs ls) (h0 : 0 < F.length) :
    ∃ g cap, fv = .slice (some ⟨g, 0, none⟩) F.length cap ∧ g < w.heap.size ∧ (∀ m, m < F.length → w.cell? ⟨g, m, none⟩ = some (.bool (onB F m))) ∧ ∀ j, w.frozen? ⟨g, j, none⟩ = false := by
  obtain ⟨g, cap, hv, hg, _, _⟩ := own_open h.rf h0
  exact ⟨g, cap, hv, hg, fun m hm => h.rf.cell (by rw [hv]; rfl) hm, own_frozen h.rf (by rw [hv]; rfl)⟩
theorem Kn.firsts {w : World} {kb : Nat} {fv tv lv : Value} {b : Nat} {F : List Bool} {fs : List Nat} {ls : List (Nat × Nat)} (h : Kn w kb fv tv lv b F fs ls) (h0 : 0 < fs.length) :
    ∃ g cap, tv = .slice (some ⟨g, 0, none⟩) fs.length cap ∧ g < w.heap.size ∧ (∀ m, m < fs.length → w.cell? ⟨g, m, none⟩ = some (.int .i64 ((fs.getD m 0 : Nat) : Int))) ∧ ∀ j, w.frozen? ⟨g, j, none⟩ = false := by
  obtain ⟨g, cap, hv, hg, _, _⟩ := own_open h.rt h0
  exact ⟨g, cap, hv, hg, fun m hm => nrow_cell h.rt (by rw [hv]; rfl) hm, own_frozen h.rt (by rw [hv]; rfl)⟩
theorem Kn.lnks {w : World} {kb : Nat} {fv tv lv : Value} {b : Nat} {F : List Bool} {fs : List Nat} {ls : List (Nat × Nat)} (h : Kn w kb fv tv lv b F fs ls) (h0 : 0 < ls.length) :
    ∃ g cap, lv = .slice (some ⟨g, 0, none⟩) ls.length cap ∧ g < w.heap.size ∧ (∀ (i : Nat) (p : Nat × Nat), ls[i]? = some p → w.cell? ⟨g, i * 2, none⟩ = some (.int .i64 (p.1 : Int)) ∧ w.cell? ⟨g, i * 2 + 1, none⟩ = some (.int .i64 (p.2 : Int))) := by
  obtain ⟨g, cap, hv, hg, _, _⟩ := own_open h.rl h0
  exact ⟨g, cap, hv, hg, fun i p hp => h.rl.cell (by rw [hv]; rfl) hp⟩

set_option maxHeartbeats 1000000 in
theorem canMake_any (kb : Nat) (fv tv lv : Value) (b : Nat) (F : List Bool) (fs : List Nat) (ls : List (Nat × Nat)) (kd n : Int) (A B : Nat) (w : World) (h : Kn w kb fv tv lv b F fs ls) (hA : A < F.length) (hB : B < F.length) (hF : F.length ≤ 1048577) :
    Calls Try.prog 53 #[.pointer (some ⟨kb, 0, none⟩), .agg #[.int .u8 kd, .int .i64 n, .int .i64 (A : Int), .int .i64 (B : Int)]] w fun e w' => e = .returned (.bool (!decide (kd = 1) && onB F A && onB F B)) ∧ Below w.heap.size w w' := by
  obtain ⟨_, c1, _, _, _⟩ := h.cells
  obtain ⟨g, cap, rfl, hg, hm, _⟩ := h.marks (by omega)
  have hk := lt_of_blk h.blk
  have mA := hm A hA
  have mB := hm B hB
  have hA' : (A : Int) < (F.length : Int) := by omega
  have hB' : (B : Int) < (F.length : Int) := by omega
  have hF' : (F.length : Int) ≤ 1048577 := by omega
  generalize F.length = N at *
  clear h hm hA hB hF
  by_cases k : kd = 1
  · subst k
    go_enter Try.func53, Try.ntmps53
    go_wp2_with fail
    go_quiet (fail)
    go_wp2
    go_ret
    exact ⟨rfl, below_drewN ((Below.refl _ _).alloc (Nat.le_refl _) _) _⟩
  · have e : decide (kd = 1) = false := by simp [k]
    have k2 : (kd == 1) = false := by simp [k]
    have k3 : (kd != 1) = true := by simp [bne, k2]
    rw [e]
    cases oa : onB F A
    · rw [oa] at mA
      go_enter Try.func53, Try.ntmps53
      go_wp2_with fail
      go_quiet (fail)
      go_wp2
      go_ret
      exact ⟨rfl, below_drewN ((Below.refl _ _).alloc (Nat.le_refl _) _) _⟩
    · rw [oa] at mA
      generalize onB F B = ob at *
      go_enter Try.func53, Try.ntmps53
      go_wp2_with fail
      go_quiet (fail)
      go_wp2
      go_ret
      exact ⟨by simp, below_drewN ((Below.refl _ _).alloc (Nat.le_refl _) _) _⟩

theorem getT_nat {L : List Tm} (hG : Good L) {m : Nat} (h1 : 1 ≤ m) (h2 : m ≤ L.length) : thr L.length (m : Int) = true ∧ getT L (m : Int) = tmAt L m ∧ (tmAt L m).a = (pA L m : Int) ∧ (tmAt L m).b = (pB L m : Int) := by
  have ht : thr L.length (m : Int) = true := thr_iff.2 (by omega)
  have := hG.tmAt_parts h1 h2
  exact ⟨ht, by simp [getT, ht], this.1, this.2⟩
/-- What opens what is sealed with A. -/
def opA (L : List Tm) (A : Nat) : Nat := if kdOf L A = 5 then pA L A else A
theorem opn_opA (L : List Tm) (m : Nat) : opn L m = opA L (pA L m) := rfl

/-- The contract of Get at a number that is there. -/
theorem get_nat (b : Nat) (sv : Value) (mb : Nat) (L : List Tm) (m : Nat) (w : World) (h : St w b sv mb L) (h1 : 1 ≤ m) (h2 : m ≤ L.length) :
    Calls Try.prog 31 #[.pointer (some ⟨b, 0, none⟩), .int .i64 (m : Int)] w fun e w' => e = .returned (.tuple #[.agg #[.int .u8 (kdOf L m), .int .i64 (tmAt L m).n, .int .i64 (pA L m : Int), .int .i64 (pB L m : Int)], .bool true]) ∧ Below w.heap.size w w' := by
  obtain ⟨e1, e2, e3, e4⟩ := getT_nat h.good h1 h2
  have K := get_any b sv mb L m w h
  rw [e1, e2, e3, e4] at K
  exact K

/-! A term that is got, and laid into a block of its own, ahead of the call or behind it. -/
theorem new4_kept {w W : World} {x0 x1 x2 x3 : Value} {t : TypeId} (hb : Below (w.alloc (.cells #[x0, x1, x2, x3] t)).heap.size (w.alloc (.cells #[x0, x1, x2, x3] t)) W) :
    W.cell? ⟨w.heap.size, 0, none⟩ = some x0 ∧ W.cell? ⟨w.heap.size, 1, none⟩ = some x1 ∧ W.cell? ⟨w.heap.size, 2, none⟩ = some x2 ∧ W.cell? ⟨w.heap.size, 3, none⟩ = some x3 ∧ (∀ j, W.frozen? ⟨w.heap.size, j, none⟩ = false) ∧ w.heap.size < W.heap.size ∧ W.heap[w.heap.size]? = some (.cells #[x0, x1, x2, x3] t (0, 0)) := by
  have e : W.heap[w.heap.size]? = some (.cells #[x0, x1, x2, x3] t (0, 0)) := by rw [hb.block _ (by simp)]; exact heap_alloc_new _ _
  exact ⟨by simp [World.cell?, e], by simp [World.cell?, e], by simp [World.cell?, e], by simp [World.cell?, e], fun j => by simp [World.frozen?, e], lt_of_blk e, e⟩
theorem bw_put4 {w W : World} (h : Below w.heap.size w W) {g : Nat} (hg : w.heap.size ≤ g) (v0 v1 v2 v3 : Value) : Below w.heap.size w ((((W.setCell ⟨g, 0, none⟩ v0).setCell ⟨g, 1, none⟩ v1).setCell ⟨g, 2, none⟩ v2).setCell ⟨g, 3, none⟩ v3) :=
  (((h.setCell hg _).setCell hg _).setCell hg _).setCell hg _
theorem tat_put4 {W : World} {g : Nat} {x0 x1 x2 x3 : Value} {t : TypeId} (e : W.heap[g]? = some (.cells #[x0, x1, x2, x3] t (0, 0))) (u : Tm) : TAt ((((W.setCell ⟨g, 0, none⟩ (.int .u8 u.kd)).setCell ⟨g, 1, none⟩ (.int .i64 u.n)).setCell ⟨g, 2, none⟩ (.int .i64 u.a)).setCell ⟨g, 3, none⟩ (.int .i64 u.b)) g 0 u := by
  refine ⟨?_, ?_, ?_, ?_⟩ <;> simp [World.cell?, World.setCell, Array.getElem?_modify, e]
theorem tat_new (w : World) (u : Tm) (t : TypeId) : TAt (w.alloc (.cells #[.int .u8 u.kd, .int .i64 u.n, .int .i64 u.a, .int .i64 u.b] t)) w.heap.size 0 u := by
  unfold TAt World.cell?; simp only [heap_alloc_new]; exact ⟨rfl, rfl, rfl, rfl⟩
/-- The term is there. -/
structure Gt (w W : World) (h : Nat) (u : Tm) : Prop where
  bel : Below w.heap.size w W
  lay : TAt W h 0 u
  pl : w.heap.size ≤ h
theorem Gt.cells {w W : World} {h : Nat} {u : Tm} (k : Gt w W h u) : W.cell? ⟨h, 0, none⟩ = some (.int .u8 u.kd) ∧ W.cell? ⟨h, 1, none⟩ = some (.int .i64 u.n) ∧ W.cell? ⟨h, 2, none⟩ = some (.int .i64 u.a) ∧ W.cell? ⟨h, 3, none⟩ = some (.int .i64 u.b) := by
  have := k.lay; unfold TAt at this; simpa using this
theorem Gt.new {w W W1 : World} {h : Nat} {u : Tm} (k : Gt w W h u) (hb : Below W.heap.size W W1) : Gt w W1 h u := ⟨bw_tr k.bel hb, k.lay.keep (hb.block h k.lay.lt), k.pl⟩
theorem gt_new {w z : World} (u : Tm) (t : TypeId) (h : Below w.heap.size w z) : Gt w (z.alloc (.cells #[.int .u8 u.kd, .int .i64 u.n, .int .i64 u.a, .int .i64 u.b] t)) z.heap.size u :=
  ⟨h.alloc h.size _, tat_new z u t, h.size⟩
theorem gt_put {w z : World} {g : Nat} {x0 x1 x2 x3 : Value} {t : TypeId} (u : Tm) (h : Below w.heap.size w z) (hg : w.heap.size ≤ g) (e : z.heap[g]? = some (.cells #[x0, x1, x2, x3] t (0, 0))) : Gt w ((((z.setCell ⟨g, 0, none⟩ (.int .u8 u.kd)).setCell ⟨g, 1, none⟩ (.int .i64 u.n)).setCell ⟨g, 2, none⟩ (.int .i64 u.a)).setCell ⟨g, 3, none⟩ (.int .i64 u.b)) g u :=
  ⟨bw_put4 h hg _ _ _ _, tat_put4 e u, hg⟩

set_option maxHeartbeats 4000000 in
theorem opener_any (kb b : Nat) (sv : Value) (mb : Nat) (L : List Tm) (kd n : Int) (A : Nat) (B : Int) (w : World) (hS : St w b sv mb L) (c0 : w.cell? ⟨kb, 0, none⟩ = some (.pointer (some ⟨b, 0, none⟩))) (h1 : 1 ≤ A) (h2 : A ≤ L.length) :
    Calls Try.prog 55 #[.pointer (some ⟨kb, 0, none⟩), .agg #[.int .u8 kd, .int .i64 n, .int .i64 (A : Int), .int .i64 B]] w fun e w' => e = .returned (.int .i64 (opA L A : Nat)) ∧ Below w.heap.size w w' := by
  obtain ⟨w0, hw0⟩ : ∃ w0, w0 = w.alloc (.cells #[.int .u8 kd, .int .i64 n, .int .i64 (A : Int), .int .i64 B] 40) := ⟨_, rfl⟩
  have hb0 : Below w.heap.size w w0 := by rw [hw0]; exact bw_alloc _ _
  have hs0 : w0.heap.size = w.heap.size + 1 := by rw [hw0]; simp
  have s0 : w0.cell? ⟨kb, 0, none⟩ = some (.pointer (some ⟨b, 0, none⟩)) ∧ w0.cell? ⟨w.heap.size, 2, none⟩ = some (.int .i64 (A : Int)) :=
    ⟨by rw [World.cell?_of_block (w := w) (hb0.block _ (lt_of_cell c0))]; exact c0, by rw [hw0]; exact cells_new4 w _ _ _ _ _ 2 _ rfl⟩
  have sof : ∀ W, Below w0.heap.size w0 W → W.cell? ⟨kb, 0, none⟩ = some (.pointer (some ⟨b, 0, none⟩)) ∧ W.cell? ⟨w.heap.size, 2, none⟩ = some (.int .i64 (A : Int)) := fun W hW =>
    ⟨by rw [World.cell?_of_block (w := w0) (hW.block _ (lt_of_cell s0.1))]; exact s0.1, by rw [World.cell?_of_block (w := w0) (hW.block _ (lt_of_cell s0.2))]; exact s0.2⟩
  have st0 := hS.bw hb0
  have K : ∀ W, Below w0.heap.size w0 W → _ := fun W hW => get_nat b sv mb L A W (st0.bw hW) h1 h2
  have bA : Below w0.heap.size w0 w0.drew := (Below.refl _ _).drew
  have bB : Below w0.heap.size w0 (w0.alloc (.cells #[.int .u8 0, .int .i64 0, .int .i64 0, .int .i64 0] 40)).drew := (bw_alloc _ _).drew
  have S0 := sof _ bA
  have S0' := sof _ bB
  have HS := hide sof
  have HK := hide K
  have HB := hide hb0
  have hp : ∀ W, Below w0.heap.size w0 W → w0.heap.size ≤ W.heap.size := fun W hW => hW.size
  have HP := hide hp
  obtain ⟨u, hu⟩ : ∃ u : Tm, u = ⟨kdOf L A, (tmAt L A).n, pA L A, pB L A⟩ := ⟨_, rfl⟩
  have u0 : u.kd = kdOf L A := by rw [hu]
  have u1 : u.n = (tmAt L A).n := by rw [hu]
  have u2 : u.a = pA L A := by rw [hu]
  have u3 : u.b = pB L A := by rw [hu]
  have hop : (opA L A : Nat) = if u.kd = 5 then u.a else ((A : Nat) : Int) := by unfold opA; rw [u0, u2]; split <;> rfl
  rw [← u0, ← u1, ← u2, ← u3] at HK
  obtain ⟨r, hr⟩ : ∃ r : Int, r = (opA L A : Nat) := ⟨_, rfl⟩
  rw [← hr]
  rw [hop] at hr
  have HR := hide hr
  clear hS c0 h1 h2 sof st0 hb0 K hp s0 hu u0 u1 u2 u3 hop hr
  have HW := hide hw0
  have hk : kb < w0.heap.size := lt_of_cell S0.1
  have hk2 : w.heap.size < w0.heap.size := by omega
  clear hw0 hs0
  go_enter Try.func55, Try.ntmps55
  go_upto_region 1 with fail
  rw [← unhide HW]
  go_cut [5] from 5 to 17 (fun s5 wx => ∃ h, s5 = .pointer (some ⟨h, 0, none⟩) ∧ Hid (Gt w0 wx h u))
  case first =>
    go_region_held3 (fun w' : World => w'.cell? ⟨kb, 0, none⟩ = some (.pointer (some ⟨b, 0, none⟩)) ∧ w'.cell? ⟨w.heap.size, 2, none⟩ = some (.int .i64 (A : Int))) (first | with_reducible exact S0 | with_reducible exact S0' | with_reducible exact S1 | with_reducible exact unhide HS _ (bw_put4 b2 (Nat.le_refl _) _ _ _ _) | exact unhide HS _ (b2.alloc b2.size _)) (first
      | (go_at_call 31; first
        | (refine (unhide HK _ bA).mono ?_; rintro e z1 ⟨rfl, b1⟩; have b2 := bw_tr bA b1; have S1 := unhide HS _ b2)
        | (refine (unhide HK _ bB).mono ?_; rintro e z1 ⟨rfl, b1⟩; have b2 := bw_tr bB b1; have S1 := unhide HS _ b2; obtain ⟨y0, y1, y2, y3, y4, y5, y6⟩ := new4_kept (w := w0.drew) b1; simp only [World.size_drew] at y0 y1 y2 y3 y4 y5 y6)))
    all_goals
      go_wp2_with fail
      go_meet
      case rel => first | exact ⟨_, rfl, gt_new u _ b2⟩ | exact ⟨_, rfl, gt_put u b2 (Nat.le_refl _) y6⟩
  case rest =>
    obtain ⟨h, rfl, HG⟩ := hcut
    obtain ⟨g0, g1, g2, g3⟩ := (unhide HG).cells
    have hbb := bw_tr (unhide HB) (unhide HG).bel
    have x2 := (unhide HS _ (unhide HG).bel).2
    clear HK HS HP S0 S0' bA bB HB HW
    by_cases k : u.kd = 5
    · have k1 := hide k
      rw [k] at g0
      clear k
      go_wp2
      go_ret
      exact ⟨ret_i (by rw [unhide HR, if_pos (unhide k1)]), hbb⟩
    · have k1 := hide k
      have k2 : (u.kd == 5) = false := by simp [k]
      have k3 : decide (u.kd = 5) = false := by simp [k]
      go_wp2
      go_ret
      exact ⟨ret_i (by rw [unhide HR, if_neg (unhide k1)]), hbb⟩

end Go.Proofs.Ytkaioidneknmjaa.Tn
