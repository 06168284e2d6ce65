/- The contract of sched.node: what a context has of a node. -/
import Derived.Test.YtcbafeneaoaglaaGreatDoorScE
import Derived.Test.YtcbafeneaoaglaaGreatDoorBaX
namespace Go.Proofs.YtcbafeneaoaglaaGreatDoor.Tn
open Go.RowKit Go.Maps

/-- What a context has of a node. -/
def nodP (p : List Tm × List Nat) (x : Nat) (pub : Nat) : List Tm × List Nat := ((dat p (x : Int)).1, (dat p (x : Int)).2 ++ [pub])
def nod (p : List Tm × List Nat) (x : Nat) (n : Nd) : List Tm × List Nat := dats (nodP p x n.pub.toNat) (if x % 2 = 0 then [n.mem, n.ep] else n.un)

set_option maxRecDepth 100000 in
set_option maxHeartbeats 4000000 in
theorem scnode_any {b : Nat} {sv : Value} {mb : Nat} {L : List Tm} {w : World} (h : St w b sv mb L) (lv : Value) (acc : List Nat) (hr : NRow 0 w lv acc) (x : Nat) (hx : x ≤ 1000) (n : Nd) (u : Value) (hu : ∀ W, Fr (foot b sv mb ++ lv.ownBlock.toList) w W → Nums W u n.un) (hz : (∀ z ∈ n.un, -9223372036854775808 ≤ z ∧ z ≤ 9223372036854775807) ∧ (-9223372036854775808 ≤ n.mem ∧ n.mem ≤ 9223372036854775807) ∧ (-9223372036854775808 ≤ n.ep ∧ n.ep ≤ 9223372036854775807)) (hp : 0 ≤ n.pub) (hul : n.un.length ≤ 8) (hl : L.length + 20 ≤ 1048576) (hac : acc.length ≤ 900) :
    Calls Tryz.prog 63 #[.func (.func 24) #[.pointer (some ⟨b, 0, none⟩)] #[], lv, .int .i64 (x : Int), .agg #[.int .i64 n.pub, .int .i64 n.mem, .int .i64 n.ep, u]] w fun e w' => ∃ lv', e = .returned (.tuple #[lv', .int .i64 0]) ∧ ∃ sv', DStep w w' b sv sv' mb (nod (L, acc) x n).1 lv lv' (nod (L, acc) x n).2 := by
  obtain ⟨pub, mem, ep, un⟩ := n
  obtain ⟨pn, rfl⟩ : ∃ pn : Nat, pub = (pn : Int) := ⟨pub.toNat, by simp at hp; omega⟩
  simp only at hu hz hul
  obtain ⟨ua, uc, rfl⟩ := nums_slice (hu w (Fr.refl _ _))
  obtain ⟨UN, hUN⟩ : ∃ UN, UN = un.length := ⟨_, rfl⟩
  rw [← hUN] at hu ⊢
  obtain ⟨w0, hw0⟩ : ∃ w0, w0 = w.alloc (.cells #[.int .i64 (pn : Int), .int .i64 mem, .int .i64 ep, .slice ua UN uc] 62) := ⟨_, rfl⟩
  have x0 : Below w.heap.size w w0 := by rw [hw0]; exact bwA' _ _
  have k0 : w0.heap[w.heap.size]? = some (.cells #[.int .i64 (pn : Int), .int .i64 mem, .int .i64 ep, .slice ua UN uc] 62 (0, 0)) := by rw [hw0]; exact heap_alloc_new _ _
  have hlv : ∀ j, lv.ownBlock = some j → j ≠ w.heap.size := fun j hj c => by have := (hr.lt j hj).2; omega
  have h0 := h.bw x0
  have hr0 : NRow 0 w0 lv acc := hr.keep (fun k hk => x0.block k (hr.lt k hk).2)
  have hu0 : ∀ W, Fr (foot b sv mb ++ lv.ownBlock.toList) w0 W → Nums W (.slice ua UN uc) un := fun W hW => hu W (((Fr.ofBelow x0).mono (fun _ _ c => by cases c)).tr hW)
  obtain ⟨j0, hj, hy0, hy1, hy2⟩ := info_parts Tryz.infoInt
  -- the first number
  obtain ⟨w1, hw1⟩ : ∃ w1, w1 = w0.alloc (.cells #[.int .i64 (x : Int)] 3) := ⟨_, rfl⟩
  have x1 : Below w0.heap.size w0 w1 := by rw [hw1]; exact bwA' _ _
  have hr1 : NRow 0 w1 lv acc := hr0.keep (fun k hk => x1.block k (hr0.lt k hk).2)
  have K1 := scdata_any (h0.bw x1) lv acc hr1 (.slice (some ⟨w0.heap.size, 0, none⟩) 1 1) [(x : Int)] (by rw [hw1]; exact nums_new1 h0 hr0 (x : Int)) (by simp; omega) (by simp; omega) (by simp) (by omega)
  have HP : Hid (dats (L, acc) [(x : Int)] = dat (L, acc) (x : Int)) := rfl
  rw [unhide HP] at K1
  obtain ⟨P, hP⟩ : ∃ P, P = dat (L, acc) (x : Int) := ⟨_, rfl⟩
  have hPl := dat_len (L, acc) (x : Int)
  rw [← hP] at K1 hPl
  simp only at hPl
  have HK1 : Hid (Calls Tryz.prog 62 #[.func (.func 24) #[.pointer (some ⟨b, 0, none⟩)] #[], lv, .slice (some ⟨w0.heap.size, 0, none⟩) 1 1] w1 fun e w' => ∃ lv', e = .returned (.tuple #[lv', .int .i64 0]) ∧ ∃ sv', DStep w0 w' b sv sv' mb P.1 lv lv' P.2) := K1.mono (fun e w' hh => by obtain ⟨l', e1, s', d⟩ := hh; exact ⟨l', e1, s', d.before x1⟩)
  have KD : Hid (∀ W sv1 L1 lv1 acc1 nv ns, DStep w0 W b sv sv1 mb L1 lv lv1 acc1 → (∀ V, Fr (foot b sv1 mb ++ lv1.ownBlock.toList) W V → Nums V nv ns) → (∀ z ∈ ns, -9223372036854775808 ≤ z ∧ z ≤ 9223372036854775807) → L1.length + ns.length ≤ 1048576 → ns.length ≤ 100 → acc1.length ≤ 1000 → Calls Tryz.prog 62 #[.func (.func 24) #[.pointer (some ⟨b, 0, none⟩)] #[], lv1, nv] W fun e w' => ∃ lv', e = .returned (.tuple #[lv', .int .i64 0]) ∧ ∃ sv', DStep w0 w' b sv sv' mb (dats (L1, acc1) ns).1 lv lv' (dats (L1, acc1) ns).2) := fun W sv1 L1 lv1 acc1 nv ns D hn hz hl hns hac => by
    refine (scdata_any D.st lv1 acc1 D.row nv ns hn hz hl hns hac).mono ?_
    rintro e w' ⟨l', e1, s', d⟩
    exact ⟨l', e1, s', D.trans d⟩
  have HE : Hid (∀ lv' sv' w', DStep w0 w' b sv sv' mb (nod (L, acc) x ⟨(pn : Int), mem, ep, un⟩).1 lv lv' (nod (L, acc) x ⟨(pn : Int), mem, ep, un⟩).2 → DStep w w' b sv sv' mb (nod (L, acc) x ⟨(pn : Int), mem, ep, un⟩).1 lv lv' (nod (L, acc) x ⟨(pn : Int), mem, ep, un⟩).2) := fun _ _ _ d => d.before x0
  have HNod : Hid (nod (L, acc) x ⟨(pn : Int), mem, ep, un⟩ = dats (P.1, P.2 ++ [pn]) (if x % 2 = 0 then [mem, ep] else un)) := by unfold Hid nod nodP; rw [hP]; simp
  have HH := hide (And.intro h0 (And.intro hlv (And.intro hu0 (And.intro hz (And.intro hul (And.intro hl (And.intro hPl.1 (And.intro hPl.2.2 hac))))))))
  have HW0 := hide hw0
  have HW1 := hide hw1
  have HUN := hide hUN
  have hx2 : (x : Int) ≤ 1000 := by omega
  clear h hr hu hz hul hl hac hw0 hw1 x0 x1 h0 hr0 hr1 hu0 K1 hP HP hPl hUN hlv hp
  generalize nod (L, acc) x ⟨(pn : Int), mem, ep, un⟩ = RR at *
  go_enter Tryz.func63, Tryz.ntmps63
  go_upto_region 1 with fail
  rw [← unhide HW0]
  go_wp2_with fail
  rw [← unhide HW1]
  refine (unhide HK1).mono ?_
  rintro e w2 ⟨lv2, rfl, sv2, d2⟩
  have D2 := hide d2
  have k2 := fr_keep d2.fr (unhide HH).1 k0 (by decide) (by decide) (unhide HH).2.1
  have hs2 := d2.fr.size
  have c2 := blk_cell (i := 0) k2 rfl
  obtain ⟨A2, hA2⟩ : ∃ A2, A2 = P.2.length := ⟨_, rfl⟩
  have hal : A2 ≤ 901 := by have := (unhide HH).2.2.2.2.2.2.2; omega
  have hrow : w2.ownsRow 0 3 1 lv2 A2 (P.2.map (fun m => .int .i64 ((m : Nat) : Int))) := by rw [hA2]; exact d2.row
  have HA := hide hA2
  clear d2 HK1 HW0 HW1 k2 hA2
  go_wp2_with (at_builtin; refine wpList_append_own_at _ rfl (.tmp 22) (.tmp 25) 55 rfl 0 3 j0 (.int .i64 0) 1 8 Tryz.underlying55 hj hy0 hy1 hy2 rfl (by decide) _ A2 _ rfl (World.ownsRow.alloc hrow _) ⟨w2.heap.size, 0, none⟩ 1 1 [_] rfl rfl (cell_one_new _ _ _) ?c2 ?c3 ?c4 ?c5 ?nx)
  case c2 => intro u hu; simp at hu; subst hu; rfl
  case c3 => unfold maxLen; omega
  case c4 => omega
  case c5 => exact Nat.zero_le _
  case nx =>
    intro v' w5 hown' hgrow _ hpl
    have hn5 : NRow 0 w5 v' (P.2 ++ [pn]) := by
      rw [unhide HA] at hown'
      unfold NRow; simpa using hown'
    have D5 : Hid (DStep w0 w5 b sv sv2 mb P.1 lv v' (P.2 ++ [pn])) := (unhide D2).grown hn5 hgrow (by simpa using hpl)
    have k5 := fr_keep (unhide D5).fr (unhide HH).1 k0 (by decide) (by decide) (unhide HH).2.1
    clear hown' hgrow hn5 hpl D2 hrow c2 hs2
    by_cases hpar : x % 2 = 0
    · have r1 : Int.tmod (x : Int) 2 = 0 := by rw [Int.tmod_eq_emod_of_nonneg (by omega)]; omega
      have d1 := blk_cell (i := 1) k5 rfl
      have d2 := blk_cell (i := 2) k5 rfl
      have K6 := unhide KD (w5.alloc (.cells #[.int .i64 mem, .int .i64 ep] 3)) sv2 P.1 v' (P.2 ++ [pn]) (.slice (some ⟨w5.heap.size, 0, none⟩) 2 2) [mem, ep] ((unhide D5).bw (bwA' _ _)) (nums_new2 (unhide D5).st (unhide D5).row mem ep) (by have := (unhide HH).2.2.2.1.2; intro z hz; simp at hz; rcases hz with rfl | rfl; exact this.1; exact this.2) (by have := (unhide HH).2.2.2.2.2; simp; omega) (by simp) (by have := (unhide HH).2.2.2.2.2.2.2; simp; omega)
      have e6 : dats (P.1, P.2 ++ [pn]) [mem, ep] = RR := by rw [unhide HNod, if_pos hpar]
      rw [e6] at K6
      have HK := hide K6
      clear K6 e6 hpar
      go_wp2_with fail
      refine (unhide HK).mono ?_
      rintro e w7 ⟨lv7, rfl, sv7, d7⟩
      have D7 := hide (unhide HE _ _ _ d7)
      clear d7 HK d1 d2 k5
      go_wp2
      go_ret2
      exact ⟨lv7, rfl, sv7, unhide D7⟩
    · have r1 : Int.tmod (x : Int) 2 = 1 := by rw [Int.tmod_eq_emod_of_nonneg (by omega)]; omega
      have d3 := blk_cell (i := 3) k5 rfl
      have K6 := unhide KD w5 sv2 P.1 v' (P.2 ++ [pn]) (.slice ua UN uc) un (unhide D5) (fun V hV => (unhide HH).2.2.1 V ((unhide D5).frs hV)) (unhide HH).2.2.2.1.1 (by have := (unhide HH).2.2.2.2; omega) (by have := (unhide HH).2.2.2.2; omega) (by have := (unhide HH).2.2.2.2.2.2.2; simp; omega)
      have e6 : dats (P.1, P.2 ++ [pn]) un = RR := by rw [unhide HNod, if_neg hpar]
      rw [e6] at K6
      have HK := hide K6
      clear K6 e6 hpar
      go_wp2_with fail
      refine (unhide HK).mono ?_
      rintro e w7 ⟨lv7, rfl, sv7, d7⟩
      have D7 := hide (unhide HE _ _ _ d7)
      clear d7 HK d3 k5
      go_wp2
      go_ret2
      exact ⟨lv7, rfl, sv7, unhide D7⟩
end Go.Proofs.YtcbafeneaoaglaaGreatDoor.Tn
