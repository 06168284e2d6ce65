/- Package account: data and whole of a list that is put together. -/
import Derived.Test.YtokdflbajnecpaaAcA
import Derived.Deep.RegionHeld3
namespace Go.Proofs.Ytokdflbajnecpaa.Tn.Ax
open Go.RowKit Go.Maps

theorem dt_one {L : List Tm} {z : Int} (hl : L.length < 1048576) : dt L [z] = (mkL L ⟨2, z, 0, 0⟩, ((mkN L ⟨2, z, 0, 0⟩ : Nat) : Int), 0) := by
  have h1 := (mk_ok (may_dat L.length z) hl).1
  have t := (mkN_thr (may_dat L.length z) hl).1
  show (if mkE L ⟨2, z, 0, 0⟩ = 0 then _ else _) = _
  rw [if_pos h1]
  show ls (mkL L ⟨2, z, 0, 0⟩) [((mkN L ⟨2, z, 0, 0⟩ : Nat) : Int)] = _
  unfold ls
  rw [if_pos (by simp [t])]
  rfl
/-- The error of a list that is put together is written again, and is none as before. -/
theorem AS.errs {w W : World} {b : Nat} {sv sv1 : Value} {mb : Nat} {L1 : List Tm} {p : Nat} {lv lv1 : Value} {acc : List Nat} (h : AS w W b sv sv1 mb L1 p lv lv1 acc) : AS w (W.setCell ⟨p, 2, none⟩ (.int .i64 0)) b sv sv1 mb L1 p lv lv1 acc := by
  have f2 : Fr [p] W (W.setCell ⟨p, 2, none⟩ (.int .i64 0)) := (Fr.refl _ _).setCell (a := ⟨p, 2, none⟩) (Or.inr (by simp)) _
  have hnp := row_ne h.blk h.row
  refine ⟨h.st.keep f2 (fun x hx c => ?_), ?_, h.row.keep (fun x hx => f2.block x (h.row.lt x hx).2 (by simpa using hnp x hx)), h.fr.trans f2 (fun _ _ c => c) (fun x hx c => List.mem_append_right _ (by simp at c; simp [c])), h.place, h.placeL⟩
  · simp at c; subst c; exact h.st.notin h.blk (by decide) (by decide) hx
  · have := poke_blk (i := 2) h.blk (.int .i64 0)
    simpa using this
theorem nis_new1 (W : World) (t : TypeId) (z : Int) (hz : i64r z) : NIs (W.alloc (.cells #[.int .i64 z] t)) (.slice (some ⟨W.heap.size, 0, none⟩) 1 1) [z] := by
  refine ⟨some ⟨W.heap.size, 0, none⟩, 1, rfl, by simp, fun x hx => by simp at hx; subst hx; exact hz, Or.inr ⟨W.heap.size, 0, rfl, fun j u hj => ?_⟩⟩
  match j, hj with
  | 0, hj => cases hj; exact blk_cell (heap_alloc_new W (.cells #[.int .i64 z] t)) rfl
set_option maxRecDepth 100000 in
set_option maxHeartbeats 4000000 in
theorem data_all {b : Nat} {sv : Value} {mb : Nat} {L : List Tm} {w : World} (h : St w b sv mb L) (p : Nat) (lv : Value) (acc : List Nat) (hb : w.heap[p]? = some (.cells #[.pointer (some ⟨b, 0, none⟩), lv, .int .i64 0] 77 (0, 0))) (hr : NRow 0 w lv acc) (nv : Value) (ns : List Int) (hn : ∀ W, Fr (foot b sv mb ++ p :: lv.ownBlock.toList) w W → NIs W nv ns) (hl : L.length + ns.length ≤ 1048576) (hns : ns.length ≤ 100) (hac : acc.length ≤ 500) :
    Calls Try.prog 41 #[.pointer (some ⟨p, 0, none⟩), nv] w fun e w' => e = .returned (.tuple #[]) ∧ ∃ sv' lv', AS w w' b sv sv' mb (dats (L, acc) ns).1 p lv lv' (dats (L, acc) ns).2 := by
  obtain ⟨a, cap, rfl, -, hz, -⟩ := hn w (Fr.refl _ _)
  obtain ⟨N, hN⟩ : ∃ N, N = ns.length := ⟨_, rfl⟩
  rw [← hN] at hn ⊢
  have hNb : N ≤ 100 := by omega
  have HN := hide hN
  have HH := hide (And.intro h (And.intro hb (And.intro hr (And.intro hn (And.intro hz (And.intro hl hac))))))
  clear hN h hb hr hn hz hl hac hns
  go_enter Try.func41, Try.ntmps41
  go_wp2_with fail
  go_loopw [9] (fun iv wr => ∃ (k : Nat) (sv' lv' : Value), k ≤ N ∧ iv = .int .i64 (k : Int) ∧ Hid (AS w wr b sv sv' mb (dats (L, acc) (ns.take k)).1 p lv lv' (dats (L, acc) (ns.take k)).2)) (fun iv _ => (N - intOf iv).toNat)
  case atStart => exact ⟨0, sv, lv, Nat.zero_le _, rfl, AS.refl (unhide HH).1 (unhide HH).2.1 (unhide HH).2.2.1⟩
  case round =>
    obtain ⟨k, sv', lv', hk, rfl, HR⟩ := hrel
    by_cases hlt : k < N
    · obtain ⟨z, hzk⟩ : ∃ z, ns[k]? = some z := ⟨_, List.getElem?_eq_getElem (by rw [← unhide HN]; exact hlt)⟩
      obtain ⟨-, -, -, hn, hz, hl, hac⟩ := unhide HH
      have hzb := hz z (List.mem_of_getElem? hzk)
      obtain ⟨g, o, rfl, cz⟩ : ∃ g o, a = some ⟨g, o, none⟩ ∧ wr.cell? ⟨g, o + k, none⟩ = some (.int .i64 z) := by
        obtain ⟨a', cap', hv, -, -, hc⟩ := hn wr (unhide HR).fr
        cases hv
        rcases hc with hc | ⟨g, o, rfl, hc⟩
        · rw [hc] at hzk; simp at hzk
        · exact ⟨g, o, rfl, hc k z hzk⟩
      have hd := dats_len (ns.take k) (L, acc)
      rw [List.length_take] at hd
      obtain ⟨P, hP⟩ : ∃ P, P = dats (L, acc) (ns.take k) := ⟨_, rfl⟩
      have hP2 : dats (L, acc) (ns.take (k + 1)) = dat P z := by rw [hP]; exact dats_snoc _ _ _ _ hzk
      rw [← hP] at HR hd
      have hl1 : P.1.length < 1048576 := by have := unhide HN; simp only at hd; omega
      have hal : P.2.length ≤ 1000 := by simp only at hd; omega
      have hblk := (unhide HR).blk
      have c0 : wr.cell? ⟨p, 0, none⟩ = some (.pointer (some ⟨b, 0, none⟩)) := blk_cell hblk rfl
      have c2 : wr.cell? ⟨p, 2, none⟩ = some (.int .i64 0) := blk_cell hblk rfl
      obtain ⟨w1, hw1⟩ : ∃ w1, w1 = wr.alloc (.cells #[.int .i64 z] 2) := ⟨_, rfl⟩
      have bw1 : Below wr.heap.size wr w1 := by rw [hw1]; exact bwA' _ _
      have A1 := (unhide HR).bw bw1
      have KD : Hid (Calls Try.prog 66 #[.pointer (some ⟨b, 0, none⟩), .slice (some ⟨wr.heap.size, 0, none⟩) 1 1] w1 fun e w' => e = .returned (.tuple #[.int .i64 ((mkN P.1 ⟨2, z, 0, 0⟩ : Nat) : Int), .int .i64 0]) ∧ ∃ sv2, SStep w1 w' b sv' sv2 mb (mkL P.1 ⟨2, z, 0, 0⟩)) := by
        have := data_any b sv' mb P.1 (.slice (some ⟨wr.heap.size, 0, none⟩) 1 1) [z] w1 A1.st (by rw [hw1]; exact nis_new1 _ _ z hzb) (fun x hx c => by
          cases hx
          exact absurd ((unhide HR).st.lt _ c) (Nat.lt_irrefl _)) (by simp)
        rw [dt_one hl1] at this
        exact this
      obtain ⟨n', hn'⟩ : ∃ n' : Nat, n' = mkN P.1 ⟨2, z, 0, 0⟩ := ⟨_, rfl⟩
      rw [← hn'] at KD
      have HD : Hid (∀ W' sv2, SStep w1 W' b sv' sv2 mb (mkL P.1 ⟨2, z, 0, 0⟩) → AS w W' b sv sv2 mb (dat P z).1 p lv lv' P.2) := fun W' sv2 s => A1.step s
      have HT : Hid (∀ W sv2, AS w W b sv sv2 mb (dat P z).1 p lv lv' P.2 → Calls Try.prog 42 #[.pointer (some ⟨p, 0, none⟩), .slice (some ⟨W.heap.size, 0, none⟩) 1 1] (W.alloc (.cells #[.int .i64 (n' : Int)] 3)) fun e w' => e = .returned (.tuple #[]) ∧ ∃ lv2, AS w w' b sv sv2 mb (dat P z).1 p lv lv2 (dat P z).2) := fun W sv2 A => by
        have B := A.bw (bwA' W (.cells #[.int .i64 (n' : Int)] 3))
        refine (terms_any B.st p lv' P.2 B.blk B.row W.heap.size n' (blk_cell (heap_alloc_new W _) rfl) hal).mono ?_
        rintro e w' ⟨h1, lv2, h2⟩
        refine ⟨h1, lv2, ?_⟩
        have e : (dat P z).2 = P.2 ++ [n'] := by rw [hn']; rfl
        rw [e]
        exact B.trans h2
      have HX := hide hP2
      have HW := hide hw1
      clear hn hz hl hac hzb hzk hP hd hl1 hP2 hn' HR A1 bw1 hw1 hblk hal
      go_wp2_with fail
      rw [← unhide HW]
      refine (unhide KD).mono ?_
      rintro e w4 ⟨rfl, sv2, s2⟩
      have D4 := unhide HD w4 sv2 s2
      have c0' : w4.cell? ⟨p, 0, none⟩ = some (.pointer (some ⟨b, 0, none⟩)) := blk_cell D4.blk rfl
      have c2' : w4.cell? ⟨p, 2, none⟩ = some (.int .i64 0) := blk_cell D4.blk rfl
      have f2' : w4.frozen? ⟨p, 2, none⟩ = false := blk_froz D4.blk
      have KT := hide (unhide HT _ sv2 D4.errs)
      have hs4 : (w4.setCell ⟨p, 2, none⟩ (.int .i64 0)).heap.size = w4.heap.size := by simp [World.setCell]
      rw [hs4] at KT
      clear KD s2 HD HT D4 HW c0 c2 hs4
      go_wp2_with fail
      refine (unhide KT).mono ?_
      rintro e w5 ⟨rfl, lv2, a5⟩
      have A5 := hide a5
      clear a5 KT c0' c2' f2'
      rw [← unhide HX] at A5
      go_wp2_with fail
      go_roundw
      case rel => exact ⟨k + 1, sv2, lv2, by omega, by go_num, A5⟩
      case measure => simp only [intOf]; omega
    · have e : k = N := by omega
      subst e
      have e2 : ns.take k = ns := List.take_of_length_le (by have := unhide HN; omega)
      rw [e2] at HR
      clear e2 HH HN
      go_wp2_with fail
      go_end0
      exact ⟨rfl, sv', lv', unhide HR⟩
theorem AS.nis {w : World} {lv : Value} {acc : List Nat} {N : Nat} (hr : NRow 0 w lv acc) (hg : Rg N acc) (hN : N ≤ 1048576) (hac : acc.length ≤ 1000) : NIs w lv (cI acc) := hr.nis (by omega) (fun m hm => by have := hg m hm; omega)
set_option maxRecDepth 100000 in
set_option maxHeartbeats 4000000 in
theorem whole_all {b : Nat} {sv : Value} {mb : Nat} {L : List Tm} {w : World} (h : St w b sv mb L) (p : Nat) (lv : Value) (acc : List Nat) (hb : w.heap[p]? = some (.cells #[.pointer (some ⟨b, 0, none⟩), lv, .int .i64 0] 77 (0, 0))) (hr : NRow 0 w lv acc) (hg : Rg L.length acc) (hL : L.length ≤ 1048576) (hac : acc.length ≤ 1000) :
    Calls Try.prog 43 #[.pointer (some ⟨p, 0, none⟩)] w fun e w' => e = .returned (.tuple #[.int .i64 (ls L (cI acc)).2.1, .int .i64 (ls L (cI acc)).2.2]) ∧ ∃ sv', SStep w w' b sv sv' mb (ls L (cI acc)).1 := by
  have c0 : w.cell? ⟨p, 0, none⟩ = some (.pointer (some ⟨b, 0, none⟩)) := blk_cell hb rfl
  have c1 : w.cell? ⟨p, 1, none⟩ = some lv := blk_cell hb rfl
  have c2 : w.cell? ⟨p, 2, none⟩ = some (.int .i64 0) := blk_cell hb rfl
  have hnis := AS.nis hr hg hL hac
  have KL : Hid (Calls Try.prog 63 #[.pointer (some ⟨b, 0, none⟩), lv] w.drew fun e w' => e = .returned (.tuple #[.int .i64 (ls L (cI acc)).2.1, .int .i64 (ls L (cI acc)).2.2]) ∧ (w'.cell? ⟨p, 0, none⟩ = some (.pointer (some ⟨b, 0, none⟩)) ∧ w'.cell? ⟨p, 1, none⟩ = some lv) ∧ ∃ sv', SStep w w' b sv sv' mb (ls L (cI acc)).1) := by
    have bn : Below w.heap.size w w.drew := (Below.refl _ _).drew
    refine (list_any b sv mb L lv (cI acc) w.drew (h.bw bn) (hnis.bw bn) (hr.foot h)).mono ?_
    rintro e w' ⟨h1, sv', s⟩
    have s2 := (SStep.same h bn).trans s
    have hb2 := kept_fr hb h s2.fr (by decide) (by decide)
    exact ⟨h1, ⟨blk_cell hb2 rfl, blk_cell hb2 rfl⟩, sv', s2⟩
  have S0 : w.cell? ⟨p, 0, none⟩ = some (.pointer (some ⟨b, 0, none⟩)) ∧ w.cell? ⟨p, 1, none⟩ = some lv := ⟨c0, c1⟩
  obtain ⟨ga, cp, rfl⟩ : ∃ ga cp, lv = .slice ga acc.length cp := by
    rcases hr.form with ⟨c, d⟩ | ⟨g, cap, c, -⟩
    · subst d; exact ⟨_, _, c⟩
    · exact ⟨_, cap, c⟩
  clear h hb hr hg hL hac hnis
  generalize (ls L (cI acc)).2.1 = X at *
  generalize (ls L (cI acc)).2.2 = E at *
  generalize (ls L (cI acc)).1 = L' at *
  generalize acc.length = N at *
  go_enter Try.func43, Try.ntmps43
  go_wp2_with fail
  go_region_held3 (fun w' : World => w'.cell? ⟨p, 0, none⟩ = some (.pointer (some ⟨b, 0, none⟩)) ∧ w'.cell? ⟨p, 1, none⟩ = some (.slice ga N cp)) (first | with_reducible exact S0 | with_reducible exact S1 | exact S0) (first
      | (go_at_call 63; refine (unhide KL).mono ?_; rintro e z1 ⟨rfl, S1, s1⟩)
      | fail)
  all_goals
    go_wp2
    go_ret2
    exact ⟨rfl, s1⟩
end Go.Proofs.Ytokdflbajnecpaa.Tn.Ax
