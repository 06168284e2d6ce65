/- Texts joined: NDdA NDdB NDdC NDdD. -/
import Derived.Test.YtpcpcgagiapinaaGreatDoorZ18
import Derived.Test.YtpcpcgagiapinaaGreatDoorNTmB
import Derived.Deep.QuietTactic
import Derived.Deep.RegionHeld3
import Derived.Test.YtpcpcgagiapinaaGreatDoorZ16
/- Contracts of missing, canMake, opener and wait of package deduce. -/
namespace Go.Proofs.YtpcpcgagiapinaaGreatDoor.Tn
open Go.RowKit Go.Maps
theorem kmissing_any (kb : Nat) (p : Addr) (w : World) (c0 : w.cell? ⟨kb, 0, none⟩ = some (.pointer (some p))) :
    Calls Tryz.prog 83 #[.pointer (some ⟨kb, 0, none⟩)] w fun e w' => e = .returned (.bool false) ∧ w' = w := by
  go_enter Tryz.func83, Tryz.ntmps83
  go_wp2
  go_ret
  exact ⟨rfl, rfl⟩
theorem Kn.marks {w : World} {kb : Nat} {fv tv lv : Value} {b : Nat} {F : List Bool} {fs : List Nat} {ls : List (Nat × Nat)} (h : Kn w kb fv tv lv b F fs ls) (h0 : 0 < F.length) :
    ∃ g cap, fv = .slice (some ⟨g, 0, none⟩) F.length cap ∧ g < w.heap.size ∧ (∀ m, m < F.length → w.cell? ⟨g, m, none⟩ = some (.bool (onB F m))) ∧ ∀ j, w.frozen? ⟨g, j, none⟩ = false := by
  obtain ⟨g, cap, hv, hg, _, _⟩ := own_open h.rf h0
  exact ⟨g, cap, hv, hg, fun m hm => h.rf.cell (by rw [hv]; rfl) hm, own_frozen h.rf (by rw [hv]; rfl)⟩
theorem Kn.firsts {w : World} {kb : Nat} {fv tv lv : Value} {b : Nat} {F : List Bool} {fs : List Nat} {ls : List (Nat × Nat)} (h : Kn w kb fv tv lv b F fs ls) (h0 : 0 < fs.length) :
    ∃ g cap, tv = .slice (some ⟨g, 0, none⟩) fs.length cap ∧ g < w.heap.size ∧ (∀ m, m < fs.length → w.cell? ⟨g, m, none⟩ = some (.int .i64 ((fs.getD m 0 : Nat) : Int))) ∧ ∀ j, w.frozen? ⟨g, j, none⟩ = false := by
  obtain ⟨g, cap, hv, hg, _, _⟩ := own_open h.rt h0
  exact ⟨g, cap, hv, hg, fun m hm => nrow_cell h.rt (by rw [hv]; rfl) hm, own_frozen h.rt (by rw [hv]; rfl)⟩
theorem Kn.lnks {w : World} {kb : Nat} {fv tv lv : Value} {b : Nat} {F : List Bool} {fs : List Nat} {ls : List (Nat × Nat)} (h : Kn w kb fv tv lv b F fs ls) (h0 : 0 < ls.length) :
    ∃ g cap, lv = .slice (some ⟨g, 0, none⟩) ls.length cap ∧ g < w.heap.size ∧ (∀ (i : Nat) (p : Nat × Nat), ls[i]? = some p → w.cell? ⟨g, i * 2, none⟩ = some (.int .i64 (p.1 : Int)) ∧ w.cell? ⟨g, i * 2 + 1, none⟩ = some (.int .i64 (p.2 : Int))) := by
  obtain ⟨g, cap, hv, hg, _, _⟩ := own_open h.rl h0
  exact ⟨g, cap, hv, hg, fun i p hp => h.rl.cell (by rw [hv]; rfl) hp⟩
set_option maxHeartbeats 1000000 in
theorem canMake_any (kb : Nat) (fv tv lv : Value) (b : Nat) (F : List Bool) (fs : List Nat) (ls : List (Nat × Nat)) (kd n : Int) (A B : Nat) (w : World) (h : Kn w kb fv tv lv b F fs ls) (hA : A < F.length) (hB : B < F.length) (hF : F.length ≤ 1048577) :
    Calls Tryz.prog 125 #[.pointer (some ⟨kb, 0, none⟩), .agg #[.int .u8 kd, .int .i64 n, .int .i64 (A : Int), .int .i64 (B : Int)]] w fun e w' => e = .returned (.bool (!decide (kd = 1) && onB F A && onB F B)) ∧ Below w.heap.size w w' := by
  obtain ⟨_, c1, _, _, _⟩ := h.cells
  obtain ⟨g, cap, rfl, hg, hm, _⟩ := h.marks (by omega)
  have hk := lt_of_blk h.blk
  have mA := hm A hA
  have mB := hm B hB
  have hA' : (A : Int) < (F.length : Int) := by omega
  have hB' : (B : Int) < (F.length : Int) := by omega
  have hF' : (F.length : Int) ≤ 1048577 := by omega
  generalize F.length = N at *
  clear h hm hA hB hF
  by_cases k : kd = 1
  · subst k
    go_enter Tryz.func125, Tryz.ntmps125
    go_wp2_with fail
    go_quiet (fail)
    go_wp2
    go_ret
    exact ⟨rfl, below_drewN ((Below.refl _ _).alloc (Nat.le_refl _) _) _⟩
  · have e : decide (kd = 1) = false := by simp [k]
    have k2 : (kd == 1) = false := by simp [k]
    have k3 : (kd != 1) = true := by simp [bne, k2]
    rw [e]
    cases oa : onB F A
    · rw [oa] at mA
      go_enter Tryz.func125, Tryz.ntmps125
      go_wp2_with fail
      go_quiet (fail)
      go_wp2
      go_ret
      exact ⟨rfl, below_drewN ((Below.refl _ _).alloc (Nat.le_refl _) _) _⟩
    · rw [oa] at mA
      generalize onB F B = ob at *
      go_enter Tryz.func125, Tryz.ntmps125
      go_wp2_with fail
      go_quiet (fail)
      go_wp2
      go_ret
      exact ⟨by simp, below_drewN ((Below.refl _ _).alloc (Nat.le_refl _) _) _⟩
theorem getT_nat {L : List Tm} (hG : Good L) {m : Nat} (h1 : 1 ≤ m) (h2 : m ≤ L.length) : thr L.length (m : Int) = true ∧ getT L (m : Int) = tmAt L m ∧ (tmAt L m).a = (pA L m : Int) ∧ (tmAt L m).b = (pB L m : Int) := by
  have ht : thr L.length (m : Int) = true := thr_iff.2 (by omega)
  have := hG.tmAt_parts h1 h2
  exact ⟨ht, by simp [getT, ht], this.1, this.2⟩
def opA (L : List Tm) (A : Nat) : Nat := if kdOf L A = 5 then pA L A else A
theorem get_nat (b : Nat) (sv : Value) (mb : Nat) (L : List Tm) (m : Nat) (w : World) (h : St w b sv mb L) (h1 : 1 ≤ m) (h2 : m ≤ L.length) :
    Calls Tryz.prog 45 #[.pointer (some ⟨b, 0, none⟩), .int .i64 (m : Int)] w fun e w' => e = .returned (.tuple #[.agg #[.int .u8 (kdOf L m), .int .i64 (tmAt L m).n, .int .i64 (pA L m : Int), .int .i64 (pB L m : Int)], .bool true]) ∧ Below w.heap.size w w' := by
  obtain ⟨e1, e2, e3, e4⟩ := getT_nat h.good h1 h2
  have K := get_any b sv mb L m w h
  rw [e1, e2, e3, e4] at K
  exact K
theorem new4_kept {w W : World} {x0 x1 x2 x3 : Value} {t : TypeId} (hb : Below (w.alloc (.cells #[x0, x1, x2, x3] t)).heap.size (w.alloc (.cells #[x0, x1, x2, x3] t)) W) :
    W.cell? ⟨w.heap.size, 0, none⟩ = some x0 ∧ W.cell? ⟨w.heap.size, 1, none⟩ = some x1 ∧ W.cell? ⟨w.heap.size, 2, none⟩ = some x2 ∧ W.cell? ⟨w.heap.size, 3, none⟩ = some x3 ∧ (∀ j, W.frozen? ⟨w.heap.size, j, none⟩ = false) ∧ w.heap.size < W.heap.size ∧ W.heap[w.heap.size]? = some (.cells #[x0, x1, x2, x3] t (0, 0)) := by
  have e : W.heap[w.heap.size]? = some (.cells #[x0, x1, x2, x3] t (0, 0)) := by rw [hb.block _ (by simp)]; exact heap_alloc_new _ _
  exact ⟨by simp [World.cell?, e], by simp [World.cell?, e], by simp [World.cell?, e], by simp [World.cell?, e], fun j => by simp [World.frozen?, e], lt_of_blk e, e⟩
theorem bw_put4 {w W : World} (h : Below w.heap.size w W) {g : Nat} (hg : w.heap.size ≤ g) (v0 v1 v2 v3 : Value) : Below w.heap.size w ((((W.setCell ⟨g, 0, none⟩ v0).setCell ⟨g, 1, none⟩ v1).setCell ⟨g, 2, none⟩ v2).setCell ⟨g, 3, none⟩ v3) :=
  (((h.setCell hg _).setCell hg _).setCell hg _).setCell hg _
theorem tat_put4 {W : World} {g : Nat} {x0 x1 x2 x3 : Value} {t : TypeId} (e : W.heap[g]? = some (.cells #[x0, x1, x2, x3] t (0, 0))) (u : Tm) : TAt ((((W.setCell ⟨g, 0, none⟩ (.int .u8 u.kd)).setCell ⟨g, 1, none⟩ (.int .i64 u.n)).setCell ⟨g, 2, none⟩ (.int .i64 u.a)).setCell ⟨g, 3, none⟩ (.int .i64 u.b)) g 0 u := by
  refine ⟨?_, ?_, ?_, ?_⟩ <;> simp [World.cell?, World.setCell, Array.getElem?_modify, e]
theorem tat_new (w : World) (u : Tm) (t : TypeId) : TAt (w.alloc (.cells #[.int .u8 u.kd, .int .i64 u.n, .int .i64 u.a, .int .i64 u.b] t)) w.heap.size 0 u := by
  unfold TAt World.cell?; simp only [heap_alloc_new]; exact ⟨rfl, rfl, rfl, rfl⟩
structure Gt (w W : World) (h : Nat) (u : Tm) : Prop where
  bel : Below w.heap.size w W
  lay : TAt W h 0 u
  pl : w.heap.size ≤ h
theorem Gt.cells {w W : World} {h : Nat} {u : Tm} (k : Gt w W h u) : W.cell? ⟨h, 0, none⟩ = some (.int .u8 u.kd) ∧ W.cell? ⟨h, 1, none⟩ = some (.int .i64 u.n) ∧ W.cell? ⟨h, 2, none⟩ = some (.int .i64 u.a) ∧ W.cell? ⟨h, 3, none⟩ = some (.int .i64 u.b) := by
  have := k.lay; unfold TAt at this; simpa using this
theorem Gt.new {w W W1 : World} {h : Nat} {u : Tm} (k : Gt w W h u) (hb : Below W.heap.size W W1) : Gt w W1 h u := ⟨bw_tr k.bel hb, k.lay.keep (hb.block h k.lay.lt), k.pl⟩
theorem gt_new {w z : World} (u : Tm) (t : TypeId) (h : Below w.heap.size w z) : Gt w (z.alloc (.cells #[.int .u8 u.kd, .int .i64 u.n, .int .i64 u.a, .int .i64 u.b] t)) z.heap.size u :=
  ⟨h.alloc h.size _, tat_new z u t, h.size⟩
theorem gt_put {w z : World} {g : Nat} {x0 x1 x2 x3 : Value} {t : TypeId} (u : Tm) (h : Below w.heap.size w z) (hg : w.heap.size ≤ g) (e : z.heap[g]? = some (.cells #[x0, x1, x2, x3] t (0, 0))) : Gt w ((((z.setCell ⟨g, 0, none⟩ (.int .u8 u.kd)).setCell ⟨g, 1, none⟩ (.int .i64 u.n)).setCell ⟨g, 2, none⟩ (.int .i64 u.a)).setCell ⟨g, 3, none⟩ (.int .i64 u.b)) g u :=
  ⟨bw_put4 h hg _ _ _ _, tat_put4 e u, hg⟩
set_option maxHeartbeats 4000000 in
theorem opener_any (kb b : Nat) (sv : Value) (mb : Nat) (L : List Tm) (kd n : Int) (A : Nat) (B : Int) (w : World) (hS : St w b sv mb L) (c0 : w.cell? ⟨kb, 0, none⟩ = some (.pointer (some ⟨b, 0, none⟩))) (h1 : 1 ≤ A) (h2 : A ≤ L.length) :
    Calls Tryz.prog 127 #[.pointer (some ⟨kb, 0, none⟩), .agg #[.int .u8 kd, .int .i64 n, .int .i64 (A : Int), .int .i64 B]] w fun e w' => e = .returned (.int .i64 (opA L A : Nat)) ∧ Below w.heap.size w w' := by
  obtain ⟨w0, hw0⟩ : ∃ w0, w0 = w.alloc (.cells #[.int .u8 kd, .int .i64 n, .int .i64 (A : Int), .int .i64 B] 64) := ⟨_, rfl⟩
  have hb0 : Below w.heap.size w w0 := by rw [hw0]; exact bw_alloc _ _
  have hs0 : w0.heap.size = w.heap.size + 1 := by rw [hw0]; simp
  have s0 : w0.cell? ⟨kb, 0, none⟩ = some (.pointer (some ⟨b, 0, none⟩)) ∧ w0.cell? ⟨w.heap.size, 2, none⟩ = some (.int .i64 (A : Int)) :=
    ⟨by rw [World.cell?_of_block (w := w) (hb0.block _ (lt_of_cell c0))]; exact c0, by rw [hw0]; exact cells_new4 w _ _ _ _ _ 2 _ rfl⟩
  have sof : ∀ W, Below w0.heap.size w0 W → W.cell? ⟨kb, 0, none⟩ = some (.pointer (some ⟨b, 0, none⟩)) ∧ W.cell? ⟨w.heap.size, 2, none⟩ = some (.int .i64 (A : Int)) := fun W hW =>
    ⟨by rw [World.cell?_of_block (w := w0) (hW.block _ (lt_of_cell s0.1))]; exact s0.1, by rw [World.cell?_of_block (w := w0) (hW.block _ (lt_of_cell s0.2))]; exact s0.2⟩
  have st0 := hS.bw hb0
  have K : ∀ W, Below w0.heap.size w0 W → _ := fun W hW => get_nat b sv mb L A W (st0.bw hW) h1 h2
  have bA : Below w0.heap.size w0 w0.drew := (Below.refl _ _).drew
  have bB : Below w0.heap.size w0 (w0.alloc (.cells #[.int .u8 0, .int .i64 0, .int .i64 0, .int .i64 0] 64)).drew := (bw_alloc _ _).drew
  have S0 := sof _ bA
  have S0' := sof _ bB
  have HS := hide sof
  have HK := hide K
  have HB := hide hb0
  have hp : ∀ W, Below w0.heap.size w0 W → w0.heap.size ≤ W.heap.size := fun W hW => hW.size
  have HP := hide hp
  obtain ⟨u, hu⟩ : ∃ u : Tm, u = ⟨kdOf L A, (tmAt L A).n, pA L A, pB L A⟩ := ⟨_, rfl⟩
  have u0 : u.kd = kdOf L A := by rw [hu]
  have u1 : u.n = (tmAt L A).n := by rw [hu]
  have u2 : u.a = pA L A := by rw [hu]
  have u3 : u.b = pB L A := by rw [hu]
  have hop : (opA L A : Nat) = if u.kd = 5 then u.a else ((A : Nat) : Int) := by unfold opA; rw [u0, u2]; split <;> rfl
  rw [← u0, ← u1, ← u2, ← u3] at HK
  obtain ⟨r, hr⟩ : ∃ r : Int, r = (opA L A : Nat) := ⟨_, rfl⟩
  rw [← hr]
  rw [hop] at hr
  have HR := hide hr
  clear hS c0 h1 h2 sof st0 hb0 K hp s0 hu u0 u1 u2 u3 hop hr
  have HW := hide hw0
  have hk : kb < w0.heap.size := lt_of_cell S0.1
  have hk2 : w.heap.size < w0.heap.size := by omega
  clear hw0 hs0
  go_enter Tryz.func127, Tryz.ntmps127
  go_upto_region 1 with fail
  rw [← unhide HW]
  go_cut [5] from 5 to 17 (fun s5 wx => ∃ h, s5 = .pointer (some ⟨h, 0, none⟩) ∧ Hid (Gt w0 wx h u))
  case first =>
    go_region_held3 (fun w' : World => w'.cell? ⟨kb, 0, none⟩ = some (.pointer (some ⟨b, 0, none⟩)) ∧ w'.cell? ⟨w.heap.size, 2, none⟩ = some (.int .i64 (A : Int))) (first | with_reducible exact S0 | with_reducible exact S0' | with_reducible exact S1 | with_reducible exact unhide HS _ (bw_put4 b2 (Nat.le_refl _) _ _ _ _) | exact unhide HS _ (b2.alloc b2.size _)) (first
      | (go_at_call 45; first
        | (refine (unhide HK _ bA).mono ?_; rintro e z1 ⟨rfl, b1⟩; have b2 := bw_tr bA b1; have S1 := unhide HS _ b2)
        | (refine (unhide HK _ bB).mono ?_; rintro e z1 ⟨rfl, b1⟩; have b2 := bw_tr bB b1; have S1 := unhide HS _ b2; obtain ⟨y0, y1, y2, y3, y4, y5, y6⟩ := new4_kept (w := w0.drew) b1; simp only [World.size_drew] at y0 y1 y2 y3 y4 y5 y6)))
    all_goals
      go_wp2_with fail
      go_meet
      case rel => first | exact ⟨_, rfl, gt_new u _ b2⟩ | exact ⟨_, rfl, gt_put u b2 (Nat.le_refl _) y6⟩
  case rest =>
    obtain ⟨h, rfl, HG⟩ := hcut
    obtain ⟨g0, g1, g2, g3⟩ := (unhide HG).cells
    have hbb := bw_tr (unhide HB) (unhide HG).bel
    have x2 := (unhide HS _ (unhide HG).bel).2
    clear HK HS HP S0 S0' bA bB HB HW
    by_cases k : u.kd = 5
    · have k1 := hide k
      rw [k] at g0
      clear k
      go_wp2
      go_ret
      exact ⟨ret_i (by rw [unhide HR, if_pos (unhide k1)]), hbb⟩
    · have k1 := hide k
      have k2 : (u.kd == 5) = false := by simp [k]
      have k3 : decide (u.kd = 5) = false := by simp [k]
      go_wp2
      go_ret
      exact ⟨ret_i (by rw [unhide HR, if_neg (unhide k1)]), hbb⟩
end Go.Proofs.YtpcpcgagiapinaaGreatDoor.Tn

/- A row of what is known grows by one; the contract of wait of package deduce. -/
namespace Go.Proofs.YtpcpcgagiapinaaGreatDoor.Tn
open Go.RowKit Go.Maps
theorem Kn.growF {w w0 w1 : World} {kb : Nat} {fv tv lv v1 : Value} {b : Nat} {F : List Bool} {fs : List Nat} {ls : List (Nat × Nat)} {x : Bool} (h : Kn w kb fv tv lv b F fs ls) (h0 : Fr [] w w0) (hown : w1.ownsRow 0 4 1 v1 (F.length + 1) (F.map .bool ++ [.bool x])) (hg : w0.grownBy w1 fv.ownBlock) (hat : v1.ownBlock = fv.ownBlock ∨ v1.ownBlock = some w0.heap.size) :
    Kn (w1.setCell ⟨kb, 1, none⟩ v1) kb v1 tv lv b (F ++ [x]) fs ls ∧ Mv w (w1.setCell ⟨kb, 1, none⟩ v1) (kfoot kb fv tv lv) (kfoot kb v1 tv lv) ∧ w1.cell? ⟨kb, 1, none⟩ = some fv ∧ w1.frozen? ⟨kb, 1, none⟩ = false ∧ (∃ g cap, v1 = .slice (some ⟨g, 0, none⟩) (F.length + 1) cap) := by
  obtain ⟨a1, a2, a3, a4, a5⟩ := h.apart
  have hk := lt_of_blk h.blk
  have hs := h0.size
  have old : ∀ k, k < w.heap.size → fv.ownBlock ≠ some k → w1.heap[k]? = w.heap[k]? := fun k hk hn => by
    rw [hg.block k (by omega) (fun c => hn c.symm), h0.block k hk (by simp)]
  have hb1 : w1.heap[kb]? = some (.cells #[.pointer (some ⟨b, 0, none⟩), fv, tv, lv] 154 (0, 0)) := by
    rw [old kb hk a1]; exact h.blk
  have hv1 : v1.ownBlock ≠ some kb := by
    rcases hat with c | c
    · rw [c]; exact a1
    · rw [c]; intro e; simp at e; omega
  have kept : ∀ k, k ≠ kb → (w1.setCell ⟨kb, 1, none⟩ v1).heap[k]? = w1.heap[k]? := fun k hn => Below.heap_setCell _ _ _ _ hn
  refine ⟨⟨by simp [World.setCell, Array.getElem?_modify, hb1], ?_, ?_, ?_⟩, ⟨?_, ?_⟩, by simp [World.cell?, hb1], by simp [World.frozen?, hb1], ?_⟩
  · have hr : BRow w1 v1 (F ++ [x]) := by
      unfold BRow
      rw [List.length_append]
      simpa using hown
    exact own_keep hr fun k hk => kept k (fun c => hv1 (by rw [hk, c]))
  · exact own_keep h.rt fun k hk => by rw [kept k (fun c => a2 (by rw [hk, c])), old k (World.ownsRow.lt h.rt k hk).2 (fun c => (a4 k c).1 hk)]
  · exact own_keep h.rl fun k hk => by rw [kept k (fun c => a3 (by rw [hk, c])), old k (World.ownsRow.lt h.rl k hk).2 (fun c => (a4 k c).2 hk)]
  · have hF : Fr (kfoot kb fv tv lv) w w1 := h0.trans (Fr.ofGrown hg) (fun _ _ c => by cases c) (fun y _ c => mem_kfoot.2 (by have q : fv.ownBlock = some y := (by simpa using c); simp [q]))
    exact hF.setCell (Or.inr (mem_kfoot.2 (Or.inl rfl))) _
  · intro k hk'
    rcases mem_kfoot.1 hk' with c | c | c | c
    · exact Or.inl (mem_kfoot.2 (Or.inl c))
    · rcases hat with q | q
      · rw [q] at c; exact Or.inl (mem_kfoot.2 (Or.inr (Or.inl c)))
      · right; rw [q] at c; simp at c; omega
    · exact Or.inl (mem_kfoot.2 (Or.inr (Or.inr (Or.inl c))))
    · exact Or.inl (mem_kfoot.2 (Or.inr (Or.inr (Or.inr c))))
  · exact own_form hown
theorem Kn.growT {w w0 w1 : World} {kb : Nat} {fv tv lv v1 : Value} {b : Nat} {F : List Bool} {fs : List Nat} {ls : List (Nat × Nat)} {x : Nat} (h : Kn w kb fv tv lv b F fs ls) (h0 : Fr [] w w0) (hown : w1.ownsRow 0 3 1 v1 (fs.length + 1) (fs.map (fun m => .int .i64 ((m : Nat) : Int)) ++ [.int .i64 (x : Int)])) (hg : w0.grownBy w1 tv.ownBlock) (hat : v1.ownBlock = tv.ownBlock ∨ v1.ownBlock = some w0.heap.size) :
    Kn (w1.setCell ⟨kb, 2, none⟩ v1) kb fv v1 lv b F (fs ++ [x]) ls ∧ Mv w (w1.setCell ⟨kb, 2, none⟩ v1) (kfoot kb fv tv lv) (kfoot kb fv v1 lv) ∧ w1.cell? ⟨kb, 2, none⟩ = some tv ∧ w1.frozen? ⟨kb, 2, none⟩ = false ∧ (∃ g cap, v1 = .slice (some ⟨g, 0, none⟩) (fs.length + 1) cap) := by
  obtain ⟨a1, a2, a3, a4, a5⟩ := h.apart
  have hk := lt_of_blk h.blk
  have hs := h0.size
  have old : ∀ k, k < w.heap.size → tv.ownBlock ≠ some k → w1.heap[k]? = w.heap[k]? := fun k hk hn => by
    rw [hg.block k (by omega) (fun c => hn c.symm), h0.block k hk (by simp)]
  have hb1 : w1.heap[kb]? = some (.cells #[.pointer (some ⟨b, 0, none⟩), fv, tv, lv] 154 (0, 0)) := by
    rw [old kb hk a2]; exact h.blk
  have hv1 : v1.ownBlock ≠ some kb := by
    rcases hat with c | c
    · rw [c]; exact a2
    · rw [c]; intro e; simp at e; omega
  have kept : ∀ k, k ≠ kb → (w1.setCell ⟨kb, 2, none⟩ v1).heap[k]? = w1.heap[k]? := fun k hn => Below.heap_setCell _ _ _ _ hn
  refine ⟨⟨by simp [World.setCell, Array.getElem?_modify, hb1], ?_, ?_, ?_⟩, ⟨?_, ?_⟩, by simp [World.cell?, hb1], by simp [World.frozen?, hb1], ?_⟩
  · exact own_keep h.rf fun k hk => by rw [kept k (fun c => a1 (by rw [hk, c])), old k (World.ownsRow.lt h.rf k hk).2 (fun c => (a4 k hk).1 c)]
  · have hr : NRow 0 w1 v1 (fs ++ [x]) := by
      unfold NRow
      rw [List.length_append]
      simpa using hown
    exact own_keep hr fun k hk => kept k (fun c => hv1 (by rw [hk, c]))
  · exact own_keep h.rl fun k hk => by rw [kept k (fun c => a3 (by rw [hk, c])), old k (World.ownsRow.lt h.rl k hk).2 (fun c => a5 k c hk)]
  · have hF : Fr (kfoot kb fv tv lv) w w1 := h0.trans (Fr.ofGrown hg) (fun _ _ c => by cases c) (fun y _ c => mem_kfoot.2 (by have q : tv.ownBlock = some y := (by simpa using c); simp [q]))
    exact hF.setCell (Or.inr (mem_kfoot.2 (Or.inl rfl))) _
  · intro k hk'
    rcases mem_kfoot.1 hk' with c | c | c | c
    · exact Or.inl (mem_kfoot.2 (Or.inl c))
    · exact Or.inl (mem_kfoot.2 (Or.inr (Or.inl c)))
    · rcases hat with q | q
      · rw [q] at c; exact Or.inl (mem_kfoot.2 (Or.inr (Or.inr (Or.inl c))))
      · right; rw [q] at c; simp at c; omega
    · exact Or.inl (mem_kfoot.2 (Or.inr (Or.inr (Or.inr c))))
  · exact own_form hown
theorem Kn.growL {w w0 w1 : World} {kb : Nat} {fv tv lv v1 : Value} {b : Nat} {F : List Bool} {fs : List Nat} {ls : List (Nat × Nat)} {x : Nat × Nat} (h : Kn w kb fv tv lv b F fs ls) (h0 : Fr [] w w0) (hown : w1.ownsRow 0 151 2 v1 (ls.length + 1) (ls.flatMap lnC ++ lnC x)) (hg : w0.grownBy w1 lv.ownBlock) (hat : v1.ownBlock = lv.ownBlock ∨ v1.ownBlock = some w0.heap.size) :
    Kn (w1.setCell ⟨kb, 3, none⟩ v1) kb fv tv v1 b F fs (ls ++ [x]) ∧ Mv w (w1.setCell ⟨kb, 3, none⟩ v1) (kfoot kb fv tv lv) (kfoot kb fv tv v1) ∧ w1.cell? ⟨kb, 3, none⟩ = some lv ∧ w1.frozen? ⟨kb, 3, none⟩ = false ∧ (∃ g cap, v1 = .slice (some ⟨g, 0, none⟩) (ls.length + 1) cap) := by
  obtain ⟨a1, a2, a3, a4, a5⟩ := h.apart
  have hk := lt_of_blk h.blk
  have hs := h0.size
  have old : ∀ k, k < w.heap.size → lv.ownBlock ≠ some k → w1.heap[k]? = w.heap[k]? := fun k hk hn => by
    rw [hg.block k (by omega) (fun c => hn c.symm), h0.block k hk (by simp)]
  have hb1 : w1.heap[kb]? = some (.cells #[.pointer (some ⟨b, 0, none⟩), fv, tv, lv] 154 (0, 0)) := by
    rw [old kb hk a3]; exact h.blk
  have hv1 : v1.ownBlock ≠ some kb := by
    rcases hat with c | c
    · rw [c]; exact a3
    · rw [c]; intro e; simp at e; omega
  have kept : ∀ k, k ≠ kb → (w1.setCell ⟨kb, 3, none⟩ v1).heap[k]? = w1.heap[k]? := fun k hn => Below.heap_setCell _ _ _ _ hn
  refine ⟨⟨by simp [World.setCell, Array.getElem?_modify, hb1], ?_, ?_, ?_⟩, ⟨?_, ?_⟩, by simp [World.cell?, hb1], by simp [World.frozen?, hb1], ?_⟩
  · exact own_keep h.rf fun k hk => by rw [kept k (fun c => a1 (by rw [hk, c])), old k (World.ownsRow.lt h.rf k hk).2 (fun c => (a4 k hk).2 c)]
  · exact own_keep h.rt fun k hk => by rw [kept k (fun c => a2 (by rw [hk, c])), old k (World.ownsRow.lt h.rt k hk).2 (fun c => a5 k hk c)]
  · have hr : LRow w1 v1 (ls ++ [x]) := by
      unfold LRow
      rw [List.length_append]
      simpa using hown
    exact own_keep hr fun k hk => kept k (fun c => hv1 (by rw [hk, c]))
  · have hF : Fr (kfoot kb fv tv lv) w w1 := h0.trans (Fr.ofGrown hg) (fun _ _ c => by cases c) (fun y _ c => mem_kfoot.2 (by have q : lv.ownBlock = some y := (by simpa using c); simp [q]))
    exact hF.setCell (Or.inr (mem_kfoot.2 (Or.inl rfl))) _
  · intro k hk'
    rcases mem_kfoot.1 hk' with c | c | c | c
    · exact Or.inl (mem_kfoot.2 (Or.inl c))
    · exact Or.inl (mem_kfoot.2 (Or.inr (Or.inl c)))
    · exact Or.inl (mem_kfoot.2 (Or.inr (Or.inr (Or.inl c))))
    · rcases hat with q | q
      · rw [q] at c; exact Or.inl (mem_kfoot.2 (Or.inr (Or.inr (Or.inr c))))
      · right; rw [q] at c; simp at c; omega
  · exact own_form hown
theorem Kn.setF {w : World} {kb g n cap : Nat} {tv lv : Value} {b : Nat} {F : List Bool} {fs : List Nat} {ls : List (Nat × Nat)} (h : Kn w kb (.slice (some ⟨g, 0, none⟩) n cap) tv lv b F fs ls) (m : Nat) (x : Bool) :
    Kn (w.setCell ⟨g, m, none⟩ (.bool x)) kb (.slice (some ⟨g, 0, none⟩) n cap) tv lv b (F.set m x) fs ls ∧ Mv w (w.setCell ⟨g, m, none⟩ (.bool x)) (kfoot kb (.slice (some ⟨g, 0, none⟩) n cap) tv lv) (kfoot kb (.slice (some ⟨g, 0, none⟩) n cap) tv lv) := by
  obtain ⟨a1, _, _, a4, _⟩ := h.apart
  have kept : ∀ k, k ≠ g → (w.setCell ⟨g, m, none⟩ (.bool x)).heap[k]? = w.heap[k]? := fun k hn => Below.heap_setCell _ _ _ _ hn
  refine ⟨⟨?_, h.rf.set rfl x, own_keep h.rt fun k hk => kept k (fun c => (a4 g rfl).1 (by rw [hk, c])), own_keep h.rl fun k hk => kept k (fun c => (a4 g rfl).2 (by rw [hk, c]))⟩, ⟨(Fr.refl _ w).setCell (Or.inr (mem_kfoot.2 (Or.inr (Or.inl rfl)))) _, fun _ hx => Or.inl hx⟩⟩
  rw [kept kb (fun c => a1 (by rw [c]; rfl))]; exact h.blk
theorem Kn.setT {w : World} {kb g n cap : Nat} {fv lv : Value} {b : Nat} {F : List Bool} {fs : List Nat} {ls : List (Nat × Nat)} (h : Kn w kb fv (.slice (some ⟨g, 0, none⟩) n cap) lv b F fs ls) (m : Nat) (x : Nat) :
    Kn (w.setCell ⟨g, m, none⟩ (.int .i64 (x : Int))) kb fv (.slice (some ⟨g, 0, none⟩) n cap) lv b F (fs.set m x) ls ∧ Mv w (w.setCell ⟨g, m, none⟩ (.int .i64 (x : Int))) (kfoot kb fv (.slice (some ⟨g, 0, none⟩) n cap) lv) (kfoot kb fv (.slice (some ⟨g, 0, none⟩) n cap) lv) := by
  obtain ⟨_, a2, _, a4, a5⟩ := h.apart
  have kept : ∀ k, k ≠ g → (w.setCell ⟨g, m, none⟩ (.int .i64 (x : Int))).heap[k]? = w.heap[k]? := fun k hn => Below.heap_setCell _ _ _ _ hn
  refine ⟨⟨?_, own_keep h.rf fun k hk => kept k (fun c => (a4 k hk).1 (by rw [c]; rfl)), nrow_set h.rt rfl x, own_keep h.rl fun k hk => kept k (fun c => a5 g rfl (by rw [hk, c]))⟩, ⟨(Fr.refl _ w).setCell (Or.inr (mem_kfoot.2 (Or.inr (Or.inr (Or.inl rfl))))) _, fun _ hx => Or.inl hx⟩⟩
  rw [kept kb (fun c => a2 (by rw [c]; rfl))]; exact h.blk
theorem cells_new2 (w : World) (x0 x1 : Value) (t : TypeId) : ∀ j u, [x0, x1][j]? = some u → (w.alloc (.cells #[x0, x1] t)).cell? ((⟨w.heap.size, 0, none⟩ : Addr).add j) = some u := by
  intro j u hj
  have e : ∀ j, (⟨w.heap.size, 0, none⟩ : Addr).add j = ⟨w.heap.size, j, none⟩ := fun j => by cases j <;> simp [Addr.add]
  rw [e]
  unfold World.cell?; simp only [heap_alloc_new]
  match j, hj with
  | 0, hj | 1, hj => simpa using hj
  | j + 2, hj => simp at hj
theorem Tryz.infoLink : (Tryz.prog.info? 151).map (fun i => (i.zero, i.size, i.bytes)) = some (some (.agg #[.int .i64 0, .int .i64 0]), 2, 16) := by kernel_rfl
theorem Tryz.infoBool : (Tryz.prog.info? 4).map (fun i => (i.zero, i.size, i.bytes)) = some (some (.bool false), 1, 1) := by kernel_rfl
set_option maxRecDepth 100000 in
set_option maxHeartbeats 4000000 in
theorem wait_any (kb : Nat) (fv tv lv : Value) (b : Nat) (F : List Bool) (fs : List Nat) (ls : List (Nat × Nat)) (n d : Nat) (w : World) (h : Kn w kb fv tv lv b F fs ls) (hd : d < F.length) (hf : fs.length = F.length) (hF : F.length ≤ 1048577) (hl : ls.length < 3 * F.length) (h0 : 1 ≤ ls.length) :
    Calls Tryz.prog 126 #[.pointer (some ⟨kb, 0, none⟩), .int .i64 (n : Int), .int .i64 (d : Int)] w fun e w' => e = .returned (.tuple #[]) ∧ ∃ lv', Kn w' kb fv tv lv' b F (wtF F fs ls d) (wtL F fs ls n d) ∧ Mv w w' (kfoot kb fv tv lv) (kfoot kb fv tv lv') := by
  obtain ⟨_, c1, c2, c3, cf⟩ := h.cells
  obtain ⟨g, cap, hfv, hg, hm, _⟩ := h.marks (by omega)
  obtain ⟨g2, cap2, htv, hg2, hm2, hz2⟩ := h.firsts (by omega)
  obtain ⟨g3, cap3, hlv, hg3, hm3⟩ := h.lnks (by omega)
  have hk := lt_of_blk h.blk
  have md := hm d hd
  have m2 := hm2 d (by omega)
  have hd' : (d : Int) < (F.length : Int) := by omega
  have hF' : (F.length : Int) ≤ 1048577 := by omega
  have HH := hide h
  cases od : onB F d
  · rw [od] at md
    obtain ⟨i0, hi, hz0, hz1, hzb⟩ := info_parts Tryz.infoLink
    have e1 : wtF F fs ls d = fs.set d ls.length := by simp [wtF, od]
    have e2 : wtL F fs ls n d = ls ++ [(n, fs.getD d 0)] := by simp [wtL, od]
    have HE := hide (And.intro e1 e2)
    obtain ⟨x, hx⟩ : ∃ x, x = fs.getD d 0 := ⟨_, rfl⟩
    rw [← hx] at m2
    have hone : ∀ u ∈ [Value.int .i64 (n : Int), .int .i64 (x : Int)], u.oneCell' = true := by
      intro u hu
      rcases List.mem_cons.1 hu with rfl | hu
      · rfl
      · rcases List.mem_cons.1 hu with rfl | hu
        · rfl
        · cases hu
    have hmx : ls.length + 1 ≤ maxLen := by unfold maxLen; omega
    have hby : (ls.length + 1) * 16 ≤ 140737488355328 := by omega
    have h0' : Fr [] w (w.drew.alloc (.cells #[.int .i64 (n : Int), .int .i64 (x : Int)] 151)) := ((Fr.refl [] w).drew).alloc _
    have HM := hide (And.intro hmx (And.intro hby (And.intro hone (And.intro h0' hx))))
    have d2 : (d : Int) < (fs.length : Int) := by omega
    have hfsb : (fs.length : Int) ≤ 1048577 := by omega
    have al : ∀ (a : Addr) (v : Value), w.cell? a = some v → (w.alloc (.cells #[.int .i64 (n : Int), .int .i64 (x : Int)] 151)).cell? a = some v := fun a v hv => by
      rw [World.cell?_of_block (w := w) (Below.heap_alloc _ _ _ (lt_of_cell hv))]; exact hv
    have c1' := c1
    rw [hfv] at c1
    rw [htv] at c2
    have c2a := al _ _ c2
    have c3a := al _ _ c3
    have m2a := al _ _ m2
    have HV := hide (And.intro hfv htv)
    clear h hm hm2 hm3 hmx hby hone h0' hx e1 e2 hlv al c1' hfv htv h0 od hz2 hg2 hg3
    have HB := hide (And.intro hd (And.intro hf (And.intro hF hl)))
    clear hd hf hF hl
    go_enter Tryz.func126, Tryz.ntmps126
    go_upto_region 1 with fail
    go_cut [13] from 13 to 31 (fun _ wx => ∃ v1, Hid (Kn wx kb fv tv v1 b F fs (ls ++ [(n, x)]) ∧ Mv w wx (kfoot kb fv tv lv) (kfoot kb fv tv v1)))
    case first =>
      go_region_law (refine step_append_own rfl (.tmp 17) (.tmp 27) 152 rfl 0 151 i0 (.agg #[.int .i64 0, .int .i64 0]) 2 16 Tryz.underlying152 hi hz0 hz1 hzb rfl (by decide) lv ls.length (ls.flatMap lnC) (by simp [Act.eval]) ((unhide HH).rl.drew.alloc _) ⟨w.heap.size, 0, none⟩ 1 1 [.int .i64 (n : Int), .int .i64 (x : Int)] (by simp [Act.eval]) rfl (cells_new2 w.drew _ _ _) (unhide HM).2.2.1 (unhide HM).1 (unhide HM).2.1 (Nat.zero_le _) ?_; intro v' w1 hown' hgrow hat; obtain ⟨k1, k2, k3, k4, g', cp, rfl⟩ := (unhide HH).growL (x := (n, x)) (unhide HM).2.2.2.1 hown' hgrow hat)
      all_goals
        go_wp2_with fail
        go_meet
        case rel => exact ⟨_, k1, k2⟩
    case rest =>
      obtain ⟨v1, HK⟩ := hcut
      obtain ⟨_, _, d2', d3, df⟩ := (unhide HK).1.cells
      obtain ⟨g4, cap4, hv1, _, _⟩ := (unhide HK).1.lnks (by simp)
      have z2 := own_frozen (unhide HK).1.rt (g := g2) (by rw [(unhide HV).2]; rfl)
      have z3 := nrow_cell (unhide HK).1.rt (g := g2) (by rw [(unhide HV).2]; rfl) (m := d) (by have := unhide HB; omega)
      have hll : (ls ++ [(n, x)]).length = ls.length + 1 := by simp
      rw [hll] at hv1
      rw [(unhide HV).2] at d2'
      rw [hv1] at d3
      have hlb : (ls.length : Int) ≤ 3145732 := by have := unhide HB; omega
      have hse : Hid (∀ v, Value.int .i64 v = .int .i64 (ls.length : Int) → (Kn (wc.setCell ⟨g2, d, none⟩ (.int .i64 v)).drew kb fv tv v1 b F (wtF F fs ls d) (wtL F fs ls n d) ∧ Mv w (wc.setCell ⟨g2, d, none⟩ (.int .i64 v)).drew (kfoot kb fv tv lv) (kfoot kb fv tv v1))) := by
        intro v hv
        rw [hv, (unhide HE).1, (unhide HE).2, ← (unhide HM).2.2.2.2]
        have k := unhide HK
        rw [(unhide HV).2] at k ⊢
        have := k.1.setT d ls.length
        exact ⟨this.1.bw (Below.refl _ _).drew, (k.2.trans this.2).after (Below.refl _ _).drew⟩
      have hz := z2 d
      have hk4 := lt_of_cell d2'
      have hk5 := lt_of_cell z3
      clear hll hv1 HE HM HV HB HH z2 c1 c2 c3 c2a c3a m2 m2a md hk hg cf df
      go_wp2_with fail
      go_region
      all_goals
        go_wp2_with fail
        go_end0
        exact ⟨rfl, _, unhide hse _ (by go_num)⟩
  · rw [od] at md
    have e1 : wtF F fs ls d = fs := by simp [wtF, od]
    have e2 : wtL F fs ls n d = ls := by simp [wtL, od]
    have HE := hide (And.intro e1 e2)
    rw [hfv] at c1
    clear h hm hm2 hm3 m2 c2 c3 hz2 hfv htv hlv e1 e2 hd hf hF hl h0 od cf
    generalize F.length = N at *
    go_enter Tryz.func126, Tryz.ntmps126
    go_wp2
    refine bodyPost_ret (v := .tuple #[]) (by simp [results, Tryz.results126, go_sem]) rfl ⟨rfl, lv, by rw [(unhide HE).1, (unhide HE).2]; exact unhide HH, Mv.refl _ _⟩
end Go.Proofs.YtpcpcgagiapinaaGreatDoor.Tn

/- The contract of read of package deduce. -/
namespace Go.Proofs.YtpcpcgagiapinaaGreatDoor.Tn
open Go.RowKit Go.Maps
structure Kc (w W : World) (kb b : Nat) (sv : Value) (mb : Nat) (L : List Tm) (Z0 : List Nat) (fv tv lv : Value) (F : List Bool) (fs : List Nat) (ls : List (Nat × Nat)) : Prop where
  kn : Kn W kb fv tv lv b F fs ls
  mv : Mv w W Z0 (kfoot kb fv tv lv)
  st : St W b sv mb L
  dis : ∀ x ∈ kfoot kb fv tv lv, x ∉ foot b sv mb
theorem Kc.step {w W W' : World} {kb b : Nat} {sv : Value} {mb : Nat} {L : List Tm} {Z0 : List Nat} {fv tv lv fv' tv' lv' : Value} {F F' : List Bool} {fs fs' : List Nat} {ls ls' : List (Nat × Nat)}
    (h : Kc w W kb b sv mb L Z0 fv tv lv F fs ls) (k : Kn W' kb fv' tv' lv' b F' fs' ls') (m : Mv W W' (kfoot kb fv tv lv) (kfoot kb fv' tv' lv')) : Kc w W' kb b sv mb L Z0 fv' tv' lv' F' fs' ls' :=
  ⟨k, h.mv.trans m, h.st.keep m.fr (fun x hx c => h.dis x c hx), fun x hx c => by
    rcases m.place x hx with q | q
    · exact h.dis x q c
    · have := h.st.lt x c; omega⟩
theorem Kc.new {w W W' : World} {kb b : Nat} {sv : Value} {mb : Nat} {L : List Tm} {Z0 : List Nat} {fv tv lv : Value} {F : List Bool} {fs : List Nat} {ls : List (Nat × Nat)}
    (h : Kc w W kb b sv mb L Z0 fv tv lv F fs ls) (hb : Below W.heap.size W W') : Kc w W' kb b sv mb L Z0 fv tv lv F fs ls := h.step (h.kn.bw hb) (Mv.same _ hb)
theorem Kc.start {w : World} {kb b : Nat} {sv : Value} {mb : Nat} {L : List Tm} {fv tv lv : Value} {F : List Bool} {fs : List Nat} {ls : List (Nat × Nat)} (h : Kn w kb fv tv lv b F fs ls) (hS : St w b sv mb L) (hd : ∀ x ∈ kfoot kb fv tv lv, x ∉ foot b sv mb) :
    Kc w w kb b sv mb L (kfoot kb fv tv lv) fv tv lv F fs ls := ⟨h, Mv.refl _ _, hS, hd⟩
structure Tk (W : World) (Z : List Nat) (h : Nat) (u : Tm) : Prop where
  lay : TAt W h 0 u
  out : h ∉ Z
theorem Tk.step {W W' : World} {Z Z' : List Nat} {h : Nat} {u : Tm} (k : Tk W Z h u) (m : Mv W W' Z Z') : Tk W' Z' h u :=
  ⟨k.lay.keep (m.fr.block h k.lay.lt k.out), fun c => by
    rcases m.place h c with q | q
    · exact k.out q
    · have := k.lay.lt; omega⟩
theorem Tk.new {W W' : World} {Z : List Nat} {h : Nat} {u : Tm} (k : Tk W Z h u) (hb : Below W.heap.size W W') : Tk W' Z h u := k.step (Mv.same _ hb)
theorem Tk.cells {W : World} {Z : List Nat} {h : Nat} {u : Tm} (k : Tk W Z h u) : W.cell? ⟨h, 0, none⟩ = some (.int .u8 u.kd) ∧ W.cell? ⟨h, 1, none⟩ = some (.int .i64 u.n) ∧ W.cell? ⟨h, 2, none⟩ = some (.int .i64 u.a) ∧ W.cell? ⟨h, 3, none⟩ = some (.int .i64 u.b) := by
  have := k.lay; unfold TAt at this; simpa using this
theorem Tk.grown {W W' : World} {Z : List Nat} {h : Nat} {u : Tm} {ob : Obj} {row : Option Nat} (k : Tk W Z h u) (hg : (W.alloc ob).grownBy W' row) (hr : ∀ x, row = some x → x ∈ Z) : Tk W' Z h u :=
  ⟨k.lay.keep (by rw [hg.block h (by have := k.lay.lt; simp; omega) (fun c => k.out (hr h c.symm)), Below.heap_alloc _ _ _ k.lay.lt]), k.out⟩
theorem Lk.moreN {L : List Tm} {F : List Bool} {fs : List Nat} {ls : List (Nat × Nat)} {M : Nat} (h : Lk L F fs ls none2 0) (hG : Good L) (hM : F.length = M) (hl : M ≤ L.length) (x : Bool) : Lk L (F ++ [x]) (fs ++ [0]) ls (fun m _ => m = M) 3 := by
  subst hM; exact h.more hG hl x
theorem Lk.done2 {L : List Tm} {F : List Bool} {fs : List Nat} {ls : List (Nat × Nat)} {M A B s : Nat} (h : Lk L F fs ls (fun m d => (m = M ∧ ¬ (m = M ∧ d = A)) ∧ ¬ (m = M ∧ d = B)) s) (hA : A = pA L M) (hB : B = pB L M) (hk : kdOf L M ≠ 6) : Lk L F fs ls none2 0 :=
  h.weak fun m d _ _ hd hx => by
    obtain ⟨⟨rfl, h2⟩, h3⟩ := hx
    rcases hd with e | e | ⟨e, _⟩
    · exact h2 ⟨rfl, by rw [hA]; exact e⟩
    · exact h3 ⟨rfl, by rw [hB]; exact e⟩
    · exact hk e
theorem Lk.done3 {L : List Tm} {F : List Bool} {fs : List Nat} {ls : List (Nat × Nat)} {M A B C s : Nat} (h : Lk L F fs ls (fun m d => ((m = M ∧ ¬ (m = M ∧ d = A)) ∧ ¬ (m = M ∧ d = B)) ∧ ¬ (m = M ∧ d = C)) s) (hA : A = pA L M) (hB : B = pB L M) (hC : C = opn L M) : Lk L F fs ls none2 0 :=
  h.weak fun m d _ _ hd hx => by
    obtain ⟨⟨⟨rfl, h2⟩, h3⟩, h4⟩ := hx
    rcases hd with e | e | ⟨_, e⟩
    · exact h2 ⟨rfl, by rw [hA]; exact e⟩
    · exact h3 ⟨rfl, by rw [hB]; exact e⟩
    · exact h4 ⟨rfl, by rw [hC]; exact e⟩
theorem wait_kc (kb b : Nat) (sv : Value) (mb : Nat) (L : List Tm) (Z0 : List Nat) (fv tv lv : Value) (F : List Bool) (fs : List Nat) (ls : List (Nat × Nat)) (X : Nat → Nat → Prop) (s n d : Nat) (w W : World) (hx : Nat) (u : Tm) (h : Kc w W kb b sv mb L Z0 fv tv lv F fs ls) (ht : Tk W (kfoot kb fv tv lv) hx u) (hl : Lk L F fs ls X (s + 1)) (h1 : 1 ≤ n) (h2 : n < F.length) (hd : d < F.length) :
    Calls Tryz.prog 126 #[.pointer (some ⟨kb, 0, none⟩), .int .i64 (n : Int), .int .i64 (d : Int)] W fun e W' => e = .returned (.tuple #[]) ∧ ∃ lv' fs' ls', Kc w W' kb b sv mb L Z0 fv tv lv' F fs' ls' ∧ Tk W' (kfoot kb fv tv lv') hx u ∧ Lk L F fs' ls' (fun m e => X m e ∧ ¬ (m = n ∧ e = d)) s := by
  have hF : F.length ≤ 1048577 := by have := hl.lenF; have := h.st.len; omega
  refine (wait_any kb fv tv lv b F fs ls n d W h.kn hd hl.lenf hF (by have := hl.lenl; omega) hl.lpos).mono ?_
  rintro e W' ⟨rfl, lv', k, m⟩
  exact ⟨rfl, lv', _, _, h.step k m, ht.step m, hl.wait h1 h2 hd⟩
theorem one_bool (x : Bool) : ∀ u ∈ [Value.bool x], u.oneCell' = true := by intro u hu; simp at hu; subst hu; rfl
theorem one_int (x : Int) : ∀ u ∈ [Value.int .i64 x], u.oneCell' = true := by intro u hu; simp at hu; subst hu; rfl
set_option maxRecDepth 100000 in
set_option maxHeartbeats 8000000 in
theorem read_any (kb : Nat) (fv tv lv : Value) (b : Nat) (F : List Bool) (fs : List Nat) (ls : List (Nat × Nat)) (sv : Value) (mb : Nat) (L : List Tm) (K : Nat → Prop) (w : World) (h : Kn w kb fv tv lv b F fs ls) (hl : Lk L F fs ls none2 0) (hs : Sm L K F [] none1) (hS : St w b sv mb L) (hd : ∀ x ∈ kfoot kb fv tv lv, x ∉ foot b sv mb) :
    Calls Tryz.prog 80 #[.pointer (some ⟨kb, 0, none⟩)] w fun e w' => e = .returned (.tuple #[]) ∧ ∃ fv' tv' lv' F' fs' ls', Kc w w' kb b sv mb L (kfoot kb fv tv lv) fv' tv' lv' F' fs' ls' ∧ Lk L F' fs' ls' none2 0 ∧ Sm L K F' [] none1 ∧ F'.length = L.length + 1 := by
  obtain ⟨i0, hi, hz0, hz1, hzb⟩ := info_parts Tryz.infoBool
  obtain ⟨j0, hj, hy0, hy1, hyb⟩ := info_parts Tryz.infoInt
  obtain ⟨_, c1, _, _, _⟩ := h.cells
  obtain ⟨a1, cap1, hfv⟩ := own_slice h.rf
  rw [hfv] at c1
  have hG := hS.good
  have hL := hS.len
  have hFL := hl.lenF
  obtain ⟨N, hN⟩ : ∃ N, N = L.length := ⟨_, rfl⟩
  obtain ⟨Z0, hZ0⟩ : ∃ Z0, Z0 = kfoot kb fv tv lv := ⟨_, rfl⟩
  have h0 : Kc w w kb b sv mb L Z0 fv tv lv F fs ls := by rw [hZ0]; exact Kc.start h hS hd
  rw [← hZ0]
  have HI : Hid (∃ fv' tv' lv' F' fs' ls', Kc w w kb b sv mb L Z0 fv' tv' lv' F' fs' ls' ∧ Lk L F' fs' ls' none2 0 ∧ Sm L K F' [] none1 ∧ F'.length = F.length) := ⟨fv, tv, lv, F, fs, ls, h0, hl, hs, rfl⟩
  have HN := hide (And.intro hN (And.intro hG hL))
  have hNb : (N : Int) ≤ 1048576 := by omega
  have hFb : (F.length : Int) ≤ 1048577 := by omega
  clear h hl hs hS hd hfv hG hL hFL hN hZ0 h0
  go_enter Tryz.func80, Tryz.ntmps80
  go_wp2_with fail
  go_loopw [2] (fun nv wr => ∃ m : Nat, nv = .int .i64 (m : Int) ∧ Hid (∃ fv' tv' lv' F' fs' ls', Kc w wr kb b sv mb L Z0 fv' tv' lv' F' fs' ls' ∧ Lk L F' fs' ls' none2 0 ∧ Sm L K F' [] none1 ∧ F'.length = m)) (fun nv _ => (N + 1 - intOf nv).toNat)
  case atStart => exact ⟨F.length, rfl, HI⟩
  case round =>
    obtain ⟨m, rfl, HR⟩ := hrel
    obtain ⟨fv1, tv1, lv1, F1, fs1, ls1, k1, l1, s1, e1⟩ := unhide HR
    obtain ⟨hN, hG, hL⟩ := unhide HN
    have KL := len_any b sv mb L wr k1.st
    obtain ⟨d0, _, _, _, _⟩ := k1.kn.cells
    rw [← hN] at KL
    have hm1 : 1 ≤ m := by have := l1.zero.lt; omega
    have hmN : m ≤ N + 1 := by have := l1.lenF; omega
    have HC := hide (And.intro k1 (And.intro l1 (And.intro s1 e1)))
    by_cases hc : m ≤ N
    · have KG := get_nat b sv mb L m wr k1.st hm1 (by omega)
      have hc2 : (m : Int) ≤ (N : Int) := by omega
      obtain ⟨hp1, hp2⟩ := hG.parts hm1 (show m ≤ L.length by omega)
      obtain ⟨kd, u0⟩ : ∃ x, x = kdOf L m := ⟨_, rfl⟩
      obtain ⟨nn, u1⟩ : ∃ x, x = (tmAt L m).n := ⟨_, rfl⟩
      obtain ⟨A, u2⟩ : ∃ x, x = pA L m := ⟨_, rfl⟩
      obtain ⟨B, u3⟩ : ∃ x, x = pB L m := ⟨_, rfl⟩
      rw [← u0, ← u1, ← u2, ← u3] at KG
      have HU := hide (And.intro u0 (And.intro u2 (And.intro u3 (And.intro hp1 (And.intro hp2 (And.intro hm1 (And.intro hc (And.intro hN (And.intro hG hL)))))))))
      clear hN hG hL k1 l1 s1 e1 HR HI u0 u1 u2 u3 hp1 hp2 hc hm1
      go_wp2_with fail
      refine KL.mono ?_
      rintro e wr ⟨rfl, rfl⟩
      clear KL
      go_wp2_with fail
      refine KG.mono ?_
      rintro e z1 ⟨rfl, b1⟩
      have q0 : Hid (∃ W h, W = z1.alloc (.cells #[.int .u8 kd, .int .i64 nn, .int .i64 (A : Int), .int .i64 (B : Int)] 64) ∧ h = z1.heap.size ∧ Kc w W kb b sv mb L Z0 fv1 tv1 lv1 F1 fs1 ls1 ∧ Tk W (kfoot kb fv1 tv1 lv1) h ⟨kd, nn, A, B⟩) := by
        obtain ⟨k1, l1, s1, e1⟩ := unhide HC
        exact ⟨_, _, rfl, rfl, (k1.new b1).new (bw_alloc z1 _), tat_new z1 ⟨kd, nn, A, B⟩ _, fun c => by have := (k1.new b1).kn.lt _ c; omega⟩
      clear KG b1
      go_upto_region 4 with fail
      obtain ⟨W, hx, e1, e2, k2, t2⟩ := unhide q0
      rw [← e1, ← e2]
      clear q0 e1 e2 d0
      obtain ⟨d0, d1, d2, d3, df⟩ := k2.kn.cells
      obtain ⟨t0, t1, t2', t3⟩ := t2.cells
      simp only at t0 t1 t2' t3
      have HP : Hid (A < F1.length ∧ B < F1.length ∧ F1.length ≤ 1048577) := by
        obtain ⟨_, u2, u3, hp1, hp2, hm1, hc, hN, hG, hL⟩ := unhide HU
        obtain ⟨_, _, _, e⟩ := unhide HC
        rw [u2, u3]
        exact ⟨by omega, by omega, by omega⟩
      have KM : Hid (∀ V, Below W.heap.size W V → _) := fun V hV => canMake_any kb fv1 tv1 lv1 b F1 fs1 ls1 kd nn A B V (k2.kn.bw hV) (unhide HP).1 (unhide HP).2.1 (unhide HP).2.2
      obtain ⟨cm, hcm⟩ : ∃ cm, cm = (!decide (kd = 1) && onB F1 A && onB F1 B) := ⟨_, rfl⟩
      rw [← hcm] at KM
      have HK2 := hide k2
      have HT2 := hide t2
      have HCM := hide hcm
      have hxk : kb ≠ hx := fun c => t2.out (by rw [← c]; exact mem_kfoot.2 (Or.inl rfl))
      have hxl : hx < W.heap.size := t2.lay.lt
      have hkl : kb < W.heap.size := lt_of_blk k2.kn.blk
      have bW : Below W.heap.size W W.drew := (Below.refl _ _).drew
      have sof : Hid (∀ V, Below W.heap.size W V → (V.cell? ⟨hx, 0, none⟩ = some (.int .u8 kd) ∧ V.cell? ⟨hx, 1, none⟩ = some (.int .i64 nn) ∧ V.cell? ⟨hx, 2, none⟩ = some (.int .i64 (A : Int)) ∧ V.cell? ⟨hx, 3, none⟩ = some (.int .i64 (B : Int))) ∧ V.cell? ⟨kb, 1, none⟩ = some fv1) := fun V hV =>
        ⟨(t2.new hV).cells, by rw [World.cell?_of_block (w := W) (hV.block _ (lt_of_cell d1))]; exact d1⟩
      have HMX : Hid (F1.length + 1 ≤ maxLen ∧ (F1.length + 1) * 1 ≤ 140737488355328) := by have := (unhide HP).2.2; unfold maxLen; exact ⟨by omega, by omega⟩
      clear hcm k2 t2
      go_cut [28] from 28 to 40 (fun _ wx => ∃ v1, Hid (Kc w wx kb b sv mb L Z0 v1 tv1 lv1 (F1 ++ [cm]) fs1 ls1 ∧ Tk wx (kfoot kb v1 tv1 lv1) hx ⟨kd, nn, A, B⟩))
      case first =>
        go_region_law (first
          | (refine step_append_own rfl (.tmp 32) (.tmp 36) 149 rfl 0 4 i0 (.bool false) 1 1 Tryz.underlying149 hi hz0 hz1 hzb rfl (by decide) fv1 F1.length (F1.map .bool) (by simp [Act.eval]) (((unhide HK2).kn.bw b3).rf.alloc _) ⟨z2.heap.size, 0, none⟩ 1 1 [.bool cm] (by simp [Act.eval]) rfl (cell_one_new _ _ _) (one_bool cm) (unhide HMX).1 (unhide HMX).2 (Nat.zero_le _) ?_; intro v' w3 hown' hgrow hat; obtain ⟨r1, r2, r3, r4, g', cp, rfl⟩ := ((unhide HK2).kn.bw b3).growF (x := cm) ((Fr.refl [] z2).alloc _) hown' hgrow hat)
          | (go_simp; go_wp2_with (first | (go_at_call 125; refine (unhide KM _ bW).mono ?_; rintro e z2 ⟨rfl, b2⟩; have b3 := bw_tr bW b2; obtain ⟨_, y1⟩ := unhide sof _ b3; have b4 := b3.alloc b3.size (.cells #[.bool cm] 4); obtain ⟨_, y2⟩ := unhide sof _ b4))))
        all_goals
          go_wp2_with fail
          go_meet
          case rel => exact ⟨_, ((unhide HK2).new b3).step r1 r2, ((unhide HT2).new b3).step r2⟩
      case rest =>
        obtain ⟨v1, HK3⟩ := hcut
        have k3 := (unhide HK3).1
        obtain ⟨_, _, e2, _, ef⟩ := k3.kn.cells
        have e2f := ef 2
        have hrow := k3.kn.rt
        unfold NRow at hrow
        have HL5 : Hid (Lk L (F1 ++ [cm]) (fs1 ++ [0]) ls1 (fun m' _ => m' = m) 3 ∧ Sm L K (F1 ++ [cm]) [] none1 ∧ fs1.length ≤ 1048577) := by
          obtain ⟨_, l1, s1, e1⟩ := unhide HC
          obtain ⟨v0, v2, v3, hp1, hp2, hm1, hc, hN, hG, hL⟩ := unhide HU
          refine ⟨l1.moreN hG e1 (by omega) cm, ?_, by have := l1.lenf; omega⟩
          have ec : cm = cmk L F1 F1.length := by rw [unhide HCM, e1, v0, v2, v3]; rfl
          rw [ec]
          exact s1.more hG (by omega) (by omega)
        have h1m : fs1.length + 1 ≤ maxLen := by have := (unhide HL5).2.2; unfold maxLen; omega
        have h1b : (fs1.length + 1) * 8 ≤ 140737488355328 := by have := (unhide HL5).2.2; omega
        have HMY := hide (And.intro h1m h1b)
        clear k3 ef t0 t1 t2' t3 d0 d1 d2 d3 df sof KM HK2 HT2 HMX h1m h1b HP HCM
        go_wp2_with (at_builtin; refine wpList_append_own_at _ rfl (.tmp 44) (.tmp 45) 27 rfl 0 3 j0 (.int .i64 0) 1 8 Tryz.underlying27 hj hy0 hy1 hyb rfl (by decide) _ fs1.length _ rfl (World.ownsRow.alloc hrow _) ⟨wc.heap.size, 0, none⟩ 1 1 [_] rfl rfl (cell_one_new _ _ _) ?c2 ?c3 ?c4 ?c5 ?nx)
        case c2 => exact one_int 0
        case c3 => exact (unhide HMY).1
        case c4 => exact (unhide HMY).2
        case c5 => exact Nat.zero_le _
        case nx =>
          intro v' w3 hown' hgrow _ hat
          obtain ⟨k3, t3⟩ := unhide HK3
          obtain ⟨r1, r2, r3, r4, g', cp, rfl⟩ := k3.kn.growT (x := 0) ((Fr.refl [] wc).alloc _) hown' hgrow (by simpa using hat)
          have k4 := k3.step r1 r2
          have t4 := t3.step r2
          have HK4 := hide (And.intro k4 t4)
          obtain ⟨x0, x1, x2, x3⟩ := t4.cells
          simp only at x0 x1 x2 x3
          clear k3 t3 r1 r2 k4 t4 hown' hgrow hat HK3 hrow e2 e2f x0 x1 x3
          go_upto_region 6 with fail
          obtain ⟨W4, hW4⟩ : ∃ W4, W4 = w3.setCell ⟨kb, 2, none⟩ (.slice (some ⟨g', 0, none⟩) (fs1.length + 1) cp) := ⟨_, rfl⟩
          rw [← hW4] at HK4 x2 ⊢
          obtain ⟨tv4, htv4⟩ : ∃ tv4, tv4 = Value.slice (some ⟨g', 0, none⟩) (fs1.length + 1) cp := ⟨_, rfl⟩
          rw [← htv4] at HK4
          clear r3 r4 hW4 htv4
          have HB : Hid (1 ≤ m ∧ m < (F1 ++ [cm]).length ∧ A < (F1 ++ [cm]).length ∧ B < (F1 ++ [cm]).length) := by
            obtain ⟨_, l1, s1, e1⟩ := unhide HC
            obtain ⟨v0, v2, v3, hp1, hp2, hm1, hc, hN, hG, hL⟩ := unhide HU
            rw [List.length_append]; simp only [List.length_cons, List.length_nil]
            exact ⟨by omega, by omega, by omega, by omega⟩
          have KW1 := wait_kc kb b sv mb L Z0 v1 tv4 lv1 _ _ _ _ 2 m A w W4 hx _ (unhide HK4).1 (unhide HK4).2 (unhide HL5).1 (unhide HB).1 (unhide HB).2.1 (unhide HB).2.2.1
          go_wp2_with fail
          refine KW1.mono ?_
          rintro e W5 ⟨rfl, lv5, fs5, ls5, k5, t5, l5⟩
          have KW2 := wait_kc kb b sv mb L Z0 v1 tv4 lv5 _ _ _ _ 1 m B w W5 hx _ k5 t5 l5 (unhide HB).1 (unhide HB).2.1 (unhide HB).2.2.2
          obtain ⟨_, _, _, x3⟩ := t5.cells
          simp only at x3
          clear KW1 k5 t5 l5 x2 HK4
          go_wp2_with fail
          refine KW2.mono ?_
          rintro e W6 ⟨rfl, lv6, fs6, ls6, k6, t6, l6⟩
          obtain ⟨y0, y1, y2, y3⟩ := t6.cells
          simp only at y0 y1 y2 y3
          have HK6 := hide (And.intro k6 (And.intro t6 l6))
          clear KW2 k6 t6 l6 x3
          by_cases hk6 : kd = 6
          · have HO : Hid (1 ≤ A ∧ A ≤ L.length ∧ opA L A < (F1 ++ [cm]).length ∧ opA L A = opn L m) := by
              obtain ⟨_, l1, s1, e1⟩ := unhide HC
              obtain ⟨v0, v2, v3, hp1, hp2, hm1, hc, hN, hG, hL⟩ := unhide HU
              have k6' : kdOf L m = 6 := by rw [← v0]; exact hk6
              have q1 := hG.pos2 hm1 (by omega) (Or.inr k6')
              have q2 := hG.opn hm1 (by omega) k6'
              have eo : opA L A = opn L m := by rw [v2]; rfl
              refine ⟨by omega, by omega, ?_, eo⟩
              rw [List.length_append, eo]; simp only [List.length_cons, List.length_nil]
              omega
            obtain ⟨z0, _, _, _, _⟩ := (unhide HK6).1.kn.cells
            have KO := opener_any kb b sv mb L kd nn A (B : Int) W6 (unhide HK6).1.st z0 (unhide HO).1 (unhide HO).2.1
            subst hk6
            clear z0
            go_wp2_with fail
            refine KO.mono ?_
            rintro e W7 ⟨rfl, b7⟩
            have KW3 := wait_kc kb b sv mb L Z0 v1 tv4 lv6 _ _ _ _ 0 m (opA L A) w W7 hx _ ((unhide HK6).1.new b7) ((unhide HK6).2.1.new b7) (unhide HK6).2.2 (unhide HB).1 (unhide HB).2.1 (unhide HO).2.2.1
            clear KO b7 y0 y1 y2 y3
            go_wp2_with fail
            refine KW3.mono ?_
            rintro e W8 ⟨rfl, lv8, fs8, ls8, k8, t8, l8⟩
            have HE : Hid (∃ fv' tv' lv' F' fs' ls', Kc w W8 kb b sv mb L Z0 fv' tv' lv' F' fs' ls' ∧ Lk L F' fs' ls' none2 0 ∧ Sm L K F' [] none1 ∧ F'.length = m + 1) := by
              obtain ⟨_, l1, s1, e1⟩ := unhide HC
              obtain ⟨v0, v2, v3, hp1, hp2, hm1, hc, hN, hG, hL⟩ := unhide HU
              exact ⟨_, _, _, _, _, _, k8, l8.done3 v2 v3 (unhide HO).2.2.2, (unhide HL5).2.1, by simp [e1]⟩
            clear k8 t8 l8 KW3
            go_wp2_with fail
            go_roundw
            case rel => exact ⟨m + 1, by go_num, HE⟩
            case measure => simp only [intOf]; omega
          · have hk7 : (kd == 6) = false := by simp [hk6]
            have hk8 : decide (kd = 6) = false := by simp [hk6]
            have HE : Hid (∃ fv' tv' lv' F' fs' ls', Kc w W6 kb b sv mb L Z0 fv' tv' lv' F' fs' ls' ∧ Lk L F' fs' ls' none2 0 ∧ Sm L K F' [] none1 ∧ F'.length = m + 1) := by
              obtain ⟨_, l1, s1, e1⟩ := unhide HC
              obtain ⟨v0, v2, v3, hp1, hp2, hm1, hc, hN, hG, hL⟩ := unhide HU
              exact ⟨_, _, _, _, _, _, (unhide HK6).1, (unhide HK6).2.2.done2 v2 v3 (by rw [← v0]; exact hk6), (unhide HL5).2.1, by simp [e1]⟩
            go_wp2_with fail
            go_roundw
            case rel => exact ⟨m + 1, by go_num, HE⟩
            case measure => simp only [intOf]; omega
    · obtain rfl : m = N + 1 := by omega
      have HE : Hid (∃ fv' tv' lv' F' fs' ls', Kc w wr kb b sv mb L Z0 fv' tv' lv' F' fs' ls' ∧ Lk L F' fs' ls' none2 0 ∧ Sm L K F' [] none1 ∧ F'.length = L.length + 1) := ⟨_, _, _, _, _, _, k1, l1, s1, by rw [e1, hN]⟩
      have hc3 : ¬ (((N + 1 : Nat) : Int) ≤ (N : Int)) := by omega
      clear k1 l1 s1 e1 hN hG hL HR HI HC
      go_wp2_with fail
      refine KL.mono ?_
      rintro e wr ⟨rfl, rfl⟩
      go_wp2_with fail
      go_end0
      exact ⟨rfl, unhide HE⟩
end Go.Proofs.YtpcpcgagiapinaaGreatDoor.Tn

/- The contract of lookAt of package deduce. -/
namespace Go.Proofs.YtpcpcgagiapinaaGreatDoor.Tn
open Go.RowKit Go.Maps
structure Nw (W W' : World) (v v' : Value) (l : List Nat) : Prop where
  row : NRow 0 W' v' l
  fr : Fr v.ownBlock.toList W W'
  pl : ∀ k, v'.ownBlock = some k → v.ownBlock = some k ∨ W.heap.size ≤ k
theorem Nw.same {W W' : World} {v : Value} {l : List Nat} (h : NRow 0 W v l) (hb : Below W.heap.size W W') : Nw W W' v v l :=
  ⟨h.keep (fun k hk => hb.block k (h.lt k hk).2), (Fr.ofBelow hb).mono (fun _ _ c => by cases c), fun _ hk => Or.inl hk⟩
theorem Nw.grown {W W1 W2 : World} {v v' : Value} {l : List Nat} {x : List Nat} {ob : Obj} (_h : NRow 0 W v l) (hb : Below W.heap.size W W1) (hown : W2.ownsRow 0 3 1 v' (l.length + x.length) (l.map (fun m => .int .i64 ((m : Nat) : Int)) ++ x.map (fun m => .int .i64 ((m : Nat) : Int)))) (hg : (W1.alloc ob).grownBy W2 v.ownBlock) (hat : v'.ownBlock = v.ownBlock ∨ v'.ownBlock = some (W1.heap.size + 1)) : Nw W W2 v v' (l ++ x) := by
  refine ⟨by unfold NRow; rw [List.length_append, List.map_append]; exact hown, ?_, fun k hk => ?_⟩
  · exact ((Fr.ofBelow hb).alloc ob).trans (Fr.ofGrown hg) (fun _ _ c => by cases c) (fun _ _ c => c)
  · rcases hat with c | c
    · left; rw [← c]; exact hk
    · right; rw [c] at hk; simp at hk; have := hb.size; omega
theorem one_two (x y : Int) : ∀ u ∈ [Value.int .i64 x, .int .i64 y], u.oneCell' = true := by
  intro u hu; simp at hu; rcases hu with rfl | rfl <;> rfl
theorem cells_new2b (w : World) (n : Nat) (hn : n = w.heap.size) (x0 x1 : Value) (t : TypeId) : ∀ j u, [x0, x1][j]? = some u → (w.alloc (.cells #[x0, x1] t)).cell? ((⟨n, 0, none⟩ : Addr).add j) = some u := by
  subst hn; exact cells_new2 w x0 x1 t
set_option maxRecDepth 100000 in
set_option maxHeartbeats 8000000 in
theorem lookAt_any (kb : Nat) (fv tv lv : Value) (b : Nat) (F : List Bool) (fs : List Nat) (ls : List (Nat × Nat)) (sv : Value) (mb : Nat) (L : List Tm) (m : Nat) (a : Option Addr) (cap : Nat) (l : List Nat) (w : World) (h : Kn w kb fv tv lv b F fs ls) (hS : St w b sv mb L) (hF : F.length ≤ L.length + 1) (h1 : 1 ≤ m) (h2 : m < F.length) (h0 : On F 0) (hr : NRow 0 w (.slice a l.length cap) l) (hl : l.length + 2 ≤ 17000000000000) :
    Calls Tryz.prog 128 #[.pointer (some ⟨kb, 0, none⟩), .int .i64 (m : Int), .slice a l.length cap] w fun e w' => ∃ v', e = .returned v' ∧ Nw w w' (.slice a l.length cap) v' (l ++ lkA L F m) := by
  obtain ⟨j0, hj, hy0, hy1, hyb⟩ := info_parts Tryz.infoInt
  have hG := hS.good
  have hL := hS.len
  have hmL : m ≤ L.length := by omega
  have KG := get_nat b sv mb L m w hS h1 hmL
  obtain ⟨d0, d1, _, _, _⟩ := h.cells
  obtain ⟨g, capF, hfv, hg, hmk, _⟩ := h.marks (by omega)
  have hk := lt_of_blk h.blk
  obtain ⟨hp1, hp2⟩ := hG.parts h1 hmL
  obtain ⟨kd, u0⟩ : ∃ x, x = kdOf L m := ⟨_, rfl⟩
  obtain ⟨nn, u1⟩ : ∃ x, x = (tmAt L m).n := ⟨_, rfl⟩
  obtain ⟨A, u2⟩ : ∃ x, x = pA L m := ⟨_, rfl⟩
  obtain ⟨B, u3⟩ : ∃ x, x = pB L m := ⟨_, rfl⟩
  rw [← u0, ← u1, ← u2, ← u3] at KG
  obtain ⟨N, hN⟩ : ∃ N, N = F.length := ⟨_, rfl⟩
  obtain ⟨q, hq⟩ : ∃ q, q = l.length := ⟨_, rfl⟩
  obtain ⟨R, hR⟩ : ∃ R, R = lkA L F m := ⟨_, rfl⟩
  rw [← hR]
  rw [hfv, ← hN] at d1
  have mF : ∀ V, Below w.heap.size w V → ∀ x, x < N → V.cell? ⟨g, x, none⟩ = some (.bool (onB F x)) := fun V hV x hx => by
    rw [World.cell?_of_block (w := w) (hV.block _ hg)]; exact hmk x (by omega)
  have cK : ∀ V, Below w.heap.size w V → V.cell? ⟨kb, 1, none⟩ = some (.slice (some ⟨g, 0, none⟩) N capF) := fun V hV => by
    rw [World.cell?_of_block (w := w) (hV.block _ hk)]; exact d1
  have cM : ∀ V, Below w.heap.size w V → _ := fun V hV => canMake_any kb fv tv lv b F fs ls kd nn A B V (h.bw hV) (by omega) (by omega) (by omega)
  have hmN : (m : Int) < (N : Int) := by omega
  have hNb : (N : Int) ≤ 1048577 := by omega
  have hqb : (q : Int) ≤ 17000000000000 := by omega
  have HU := hide (And.intro u0 (And.intro u2 (And.intro u3 (And.intro hp1 (And.intro hp2 (And.intro h1 (And.intro hmL (And.intro hN (And.intro hG (And.intro hL (And.intro hR (And.intro hq h2))))))))))))
  have HM := hide mF
  have HK := hide cK
  have HC := hide cM
  have HS := hide (And.intro h (And.intro hS (And.intro h0 (And.intro hr hl))))
  have mm := mF w (Below.refl _ _) m (by omega)
  rw [← hq]
  have hrw : ∀ V ob, Below w.heap.size w V → (V.alloc ob).ownsRow 0 3 1 (.slice a q cap) q (l.map (fun m => .int .i64 ((m : Nat) : Int))) := fun V ob hV => by
    have := (Nw.same hr hV).row
    unfold NRow at this
    rw [← hq] at this
    exact World.ownsRow.alloc this ob
  have HW := hide hrw
  have hx1 : q + 1 ≤ maxLen := by unfold maxLen; omega
  have hx2 : (q + 1) * 8 ≤ 140737488355328 := by omega
  have hx3 : q + 2 ≤ maxLen := by unfold maxLen; omega
  have hx4 : (q + 2) * 8 ≤ 140737488355328 := by omega
  have HX := hide (And.intro hx1 (And.intro hx2 (And.intro hx3 hx4)))
  have end1 : ∀ (V W2 : World) (ob : Obj) (v' : Value) (xs : List Nat), Below w.heap.size w V → W2.ownsRow 0 3 1 v' (q + xs.length) (l.map (fun m => .int .i64 ((m : Nat) : Int)) ++ xs.map (fun m => .int .i64 ((m : Nat) : Int))) → (V.alloc ob).grownBy W2 (Value.slice a q cap).ownBlock → (v'.ownBlock = (Value.slice a q cap).ownBlock ∨ v'.ownBlock = some (V.heap.size + 1)) → R = xs → Nw w W2 (.slice a q cap) v' (l ++ R) := fun V W2 ob v' xs hV h1 h2 h3 e => by
    rw [e]; rw [hq] at h1 h2 h3 ⊢; exact Nw.grown hr hV h1 h2 h3
  have HE := hide end1
  have end0 : ∀ V, Below w.heap.size w V → R = [] → Nw w V (.slice a q cap) (.slice a q cap) (l ++ R) := fun V hV e => by
    rw [e, List.append_nil, hq]; exact Nw.same hr hV
  have HE0 := hide end0
  clear h hS hF h1 h2 h0 hr hl hG hL hmL hp1 hp2 hN hq hR u0 u1 u2 u3 hfv hmk mF cK cM hrw hx1 hx2 hx3 hx4 end1 end0
  cases om : onB F m
  · rw [om] at mm
    have OM := hide om
    cases ocm : (!decide (kd = 1) && onB F A && onB F B)
    · rw [ocm] at HC
      have HR0 : Hid (R = []) := by
        obtain ⟨v0, v2, v3, _, _, _, _, _, _, _, hR, _, _⟩ := unhide HU
        have : cmk L F m = false := by unfold cmk; rw [← v0, ← v2, ← v3]; exact ocm
        unfold Hid; rw [hR]; simp [lkA, om, this]
      clear ocm om
      go_enter Tryz.func128, Tryz.ntmps128
      go_wp2_with fail
      refine KG.mono ?_
      rintro e z1 ⟨rfl, b1⟩
      have b2 := b1.alloc b1.size (.cells #[.int .u8 kd, .int .i64 nn, .int .i64 (A : Int), .int .i64 (B : Int)] 64)
      have y1 := unhide HK _ b2
      have y2 := unhide HM _ b2 m (by have := unhide HU; omega)
      rw [unhide OM] at y2
      clear KG
      have KC := unhide HC _ b2
      go_wp2_with fail
      refine KC.mono ?_
      rintro e z2 ⟨rfl, b3⟩
      have b4 := bw_tr b2 b3
      have y3 := unhide HK _ b4
      have y4 := unhide HM _ b4 m (by have := unhide HU; omega)
      rw [unhide OM] at y4
      have HN := unhide HE0 _ b4 (unhide HR0)
      clear KC y1 y2
      go_wp2_with fail
      go_ret
      exact ⟨_, rfl, HN⟩
    · rw [ocm] at HC
      have HR0 : Hid (R = [m]) := by
        obtain ⟨v0, v2, v3, _, _, _, _, _, _, _, hR, _, _⟩ := unhide HU
        have : cmk L F m = true := by unfold cmk; rw [← v0, ← v2, ← v3]; exact ocm
        unfold Hid; rw [hR]; simp [lkA, om, this]
      clear ocm om
      go_enter Tryz.func128, Tryz.ntmps128
      go_wp2_with fail
      refine KG.mono ?_
      rintro e z1 ⟨rfl, b1⟩
      have b2 := b1.alloc b1.size (.cells #[.int .u8 kd, .int .i64 nn, .int .i64 (A : Int), .int .i64 (B : Int)] 64)
      have y1 := unhide HK _ b2
      have y2 := unhide HM _ b2 m (by have := unhide HU; omega)
      rw [unhide OM] at y2
      clear KG
      have KC := unhide HC _ b2
      go_wp2_with fail
      refine KC.mono ?_
      rintro e z2 ⟨rfl, b3⟩
      have b4 := bw_tr b2 b3
      clear KC y1 y2
      go_wp2_with (at_builtin; refine wpList_append_own_at _ rfl (.tmp 32) (.tmp 34) 27 rfl 0 3 j0 (.int .i64 0) 1 8 Tryz.underlying27 hj hy0 hy1 hyb rfl (by decide) _ q _ rfl (unhide HW _ _ b4) ⟨_, 0, none⟩ 1 1 [.int .i64 (m : Int)] rfl rfl (cell_one_new _ _ _) (one_int _) (unhide HX).1 (unhide HX).2.1 (Nat.zero_le _) ?nx)
      case nx =>
        intro v' w3 hown' hgrow _ hat
        have HN := unhide HE _ w3 _ v' [m] b4 hown' hgrow (by simpa using hat) (unhide HR0)
        clear hown' hgrow hat
        go_wp2_with fail
        go_ret
        exact ⟨_, rfl, HN⟩
  · rw [om] at mm
    have OM := hide om
    by_cases k3 : kd = 3
    · have HR0 : Hid (R = [A, B]) := by
        obtain ⟨v0, v2, v3, _, _, _, _, _, _, _, hR, _, _⟩ := unhide HU
        unfold Hid; rw [hR, v2, v3]; rw [k3] at v0; simp [lkA, om, ← v0]
      clear om
      subst k3
      go_enter Tryz.func128, Tryz.ntmps128
      go_wp2_with fail
      refine KG.mono ?_
      rintro e z1 ⟨rfl, b1⟩
      have b2 := b1.alloc b1.size (.cells #[.int .u8 3, .int .i64 nn, .int .i64 (A : Int), .int .i64 (B : Int)] 64)
      have y1 := unhide HK _ b2
      have y2 := unhide HM _ b2 m (by have := unhide HU; omega)
      rw [unhide OM] at y2
      clear KG
      go_wp2_with (at_builtin; refine wpList_append_own_at _ rfl (.tmp 50) (.tmp 55) 27 rfl 0 3 j0 (.int .i64 0) 1 8 Tryz.underlying27 hj hy0 hy1 hyb rfl (by decide) _ q _ rfl (unhide HW _ _ b2) ⟨_, 0, none⟩ 2 2 [.int .i64 (A : Int), .int .i64 (B : Int)] rfl rfl (cells_new2b _ _ (by simp) _ _ _) (one_two _ _) (unhide HX).2.2.1 (unhide HX).2.2.2 (Nat.zero_le _) ?nx)
      case nx =>
        intro v' w3 hown' hgrow _ hat
        have HN := unhide HE _ w3 _ v' [A, B] b2 hown' hgrow (by simpa using hat) (unhide HR0)
        clear hown' hgrow hat
        go_wp2_with fail
        go_ret
        exact ⟨_, rfl, HN⟩
    · have k3b : (kd == 3) = false := by simp [k3]
      have k3c : decide (kd = 3) = false := by simp [k3]
      by_cases k6 : kd = 6
      · have HO : Hid (1 ≤ A ∧ A ≤ L.length ∧ opA L A < N ∧ opA L A = opn L m) := by
          obtain ⟨v0, v2, v3, hp1, hp2, hm1, hc, hN, hG, hL, _, _, h2⟩ := unhide HU
          have k6' : kdOf L m = 6 := by rw [← v0]; exact k6
          have q1 := hG.pos2 hm1 hc (Or.inr k6')
          have q2 := hG.opn hm1 hc k6'
          have eo : opA L A = opn L m := by rw [v2]; rfl
          refine ⟨by omega, by omega, ?_, eo⟩
          rw [eo]; omega
        have KO : ∀ V, Below w.heap.size w V → _ := fun V hV => opener_any kb b sv mb L kd nn A (B : Int) V ((unhide HS).2.1.bw hV) (by rw [World.cell?_of_block (w := w) (hV.block _ hk)]; exact d0) (unhide HO).1 (unhide HO).2.1
        have KOH := hide KO
        have mO : ∀ V, Below w.heap.size w V → V.cell? ⟨g, opA L A, none⟩ = some (.bool (onB F (opA L A))) := fun V hV => unhide HM V hV _ (unhide HO).2.2.1
        have hoN : ((opA L A : Nat) : Int) < (N : Int) := by have := (unhide HO).2.2.1; omega
        have HR1 : Hid (R = if onB F (opA L A) = true then [B] else []) := by
          obtain ⟨v0, v2, v3, _, _, _, _, _, _, _, hR, _, _⟩ := unhide HU
          unfold Hid; rw [hR, (unhide HO).2.2.2, v3]; rw [k6] at v0; simp [lkA, om, ← v0]
        have HMO := hide mO
        subst k6
        clear KO mO om
        generalize opA L A = oA at *
        go_enter Tryz.func128, Tryz.ntmps128
        go_wp2_with fail
        refine KG.mono ?_
        rintro e z1 ⟨rfl, b1⟩
        have b2 := b1.alloc b1.size (.cells #[.int .u8 6, .int .i64 nn, .int .i64 (A : Int), .int .i64 (B : Int)] 64)
        have y1 := unhide HK _ b2
        have y2 := unhide HM _ b2 m (by have := unhide HU; omega)
        rw [unhide OM] at y2
        clear KG
        go_upto_region 8 with fail
        obtain ⟨W, hW⟩ : ∃ W, W = z1.alloc (.cells #[.int .u8 6, .int .i64 nn, .int .i64 (A : Int), .int .i64 (B : Int)] 64) := ⟨_, rfl⟩
        have t2 : TAt W z1.heap.size 0 ⟨6, nn, A, B⟩ := by rw [hW]; exact tat_new z1 ⟨6, nn, A, B⟩ _
        rw [← hW] at b2 y1 ⊢
        generalize z1.heap.size = hx at t2 ⊢
        have bW : Below w.heap.size w W.drew := b2.drew
        have bWW : Below W.heap.size W W.drew := (Below.refl _ _).drew
        have sof : Hid (∀ V, Below W.heap.size W V → (V.cell? ⟨hx, 0, none⟩ = some (.int .u8 6) ∧ V.cell? ⟨hx, 1, none⟩ = some (.int .i64 nn) ∧ V.cell? ⟨hx, 2, none⟩ = some (.int .i64 (A : Int)) ∧ V.cell? ⟨hx, 3, none⟩ = some (.int .i64 (B : Int)) ∧ V.cell? ⟨kb, 1, none⟩ = some (.slice (some ⟨g, 0, none⟩) N capF) ∧ V.cell? ⟨g, oA, none⟩ = some (.bool (onB F oA)))) := fun V hV => by
          have t3 := t2.keep (hV.block hx t2.lt)
          unfold TAt at t3
          simp only [Nat.zero_add] at t3
          exact ⟨t3.1, t3.2.1, t3.2.2.1, t3.2.2.2, unhide HK _ (bw_tr b2 hV), unhide HMO _ (bw_tr b2 hV)⟩
        have S0 := unhide sof _ bWW
        clear hW y2 mm b1 z1 y1
        cases oo : onB F oA
        · rw [oo] at sof HR1 S0
          have HR0 : Hid (R = []) := by have := unhide HR1; unfold Hid; simpa using this
          clear oo
          go_region_held3 (fun V : World => V.cell? ⟨hx, 0, none⟩ = some (.int .u8 6) ∧ V.cell? ⟨hx, 1, none⟩ = some (.int .i64 nn) ∧ V.cell? ⟨hx, 2, none⟩ = some (.int .i64 (A : Int)) ∧ V.cell? ⟨hx, 3, none⟩ = some (.int .i64 (B : Int)) ∧ V.cell? ⟨kb, 1, none⟩ = some (.slice (some ⟨g, 0, none⟩) N capF) ∧ V.cell? ⟨g, oA, none⟩ = some (.bool false)) (first | with_reducible exact S0 | with_reducible exact S1) (first
            | (go_at_call 127; refine (unhide KOH _ bW).mono ?_; rintro e z2 ⟨rfl, b3⟩; have S1 := unhide sof _ (bw_tr bWW b3)))
          all_goals
            have HN := unhide HE0 _ (bw_tr bW b3) (unhide HR0)
            go_wp2_with fail
            go_ret
            exact ⟨_, rfl, HN⟩
        · rw [oo] at sof HR1 S0
          have HR0 : Hid (R = [B]) := by have := unhide HR1; unfold Hid; simpa using this
          clear oo
          go_region_held3 (fun V : World => V.cell? ⟨hx, 0, none⟩ = some (.int .u8 6) ∧ V.cell? ⟨hx, 1, none⟩ = some (.int .i64 nn) ∧ V.cell? ⟨hx, 2, none⟩ = some (.int .i64 (A : Int)) ∧ V.cell? ⟨hx, 3, none⟩ = some (.int .i64 (B : Int)) ∧ V.cell? ⟨kb, 1, none⟩ = some (.slice (some ⟨g, 0, none⟩) N capF) ∧ V.cell? ⟨g, oA, none⟩ = some (.bool true)) (first | with_reducible exact S0 | with_reducible exact S1) (first
            | (go_at_call 127; refine (unhide KOH _ bW).mono ?_; rintro e z2 ⟨rfl, b3⟩; have S1 := unhide sof _ (bw_tr bWW b3)))
          all_goals
            have b5 := bw_tr bW b3
            obtain ⟨s0, s1, s2, s3, s4, s5⟩ := S1
            go_wp2_with (at_builtin; refine wpList_append_own_at _ rfl (.tmp 72) (.tmp 75) 27 rfl 0 3 j0 (.int .i64 0) 1 8 Tryz.underlying27 hj hy0 hy1 hyb rfl (by decide) _ q _ rfl (unhide HW _ _ b5) ⟨_, 0, none⟩ 1 1 [.int .i64 (B : Int)] rfl rfl (cell_one_new _ _ _) (one_int _) (unhide HX).1 (unhide HX).2.1 (Nat.zero_le _) ?nx)
            case nx =>
              intro v' w3 hown' hgrow _ hat
              have HN := unhide HE _ w3 _ v' [B] b5 hown' hgrow (by simpa using hat) (unhide HR0)
              clear hown' hgrow hat
              go_wp2_with fail
              go_ret
              exact ⟨_, rfl, HN⟩
      · have k6b : (kd == 6) = false := by simp [k6]
        have k6c : decide (kd = 6) = false := by simp [k6]
        have HR0 : Hid (R = []) := by
          obtain ⟨v0, v2, v3, _, _, _, _, _, _, _, hR, _, _⟩ := unhide HU
          unfold Hid; rw [hR]; rw [v0] at k3 k6; simp [lkA, om, k3, k6]
        clear om
        go_enter Tryz.func128, Tryz.ntmps128
        go_wp2_with fail
        refine KG.mono ?_
        rintro e z1 ⟨rfl, b1⟩
        have b2 := b1.alloc b1.size (.cells #[.int .u8 kd, .int .i64 nn, .int .i64 (A : Int), .int .i64 (B : Int)] 64)
        have y1 := unhide HK _ b2
        have y2 := unhide HM _ b2 m (by have := unhide HU; omega)
        rw [unhide OM] at y2
        clear KG
        go_wp2_with fail
        go_quiet (fail)
        have HN := fun n => unhide HE0 _ (below_drewN b2 n) (unhide HR0)
        go_wp2_with fail
        go_ret
        exact ⟨_, rfl, HN _⟩
end Go.Proofs.YtpcpcgagiapinaaGreatDoor.Tn
