/- Contracts of the document's List and Data. -/
import Derived.Test.YticljbimbbiedaaTmRMake
namespace Go.Proofs.Yticljbimbbiedaa
open Go.RowKit Go.Maps

theorem rls_step {p : List Tm × Int × Int} {L' : List Tm} {n e : Int} {w w' : World} {b : Nat} {sv sv' : Value} (h : p = (L', n, e)) (k : RStep w w' b sv sv' L') : RStep w w' b sv sv' p.1 := by subst h; exact k
theorem NRow.rfoot {B : Nat} {w : World} {v : Value} {l : List Nat} {b : Nat} {sv : Value} {L : List Tm} (h : NRow B w v l) (hs : Rs w b sv L) : ∀ k, v.ownBlock = some k → k ∉ rfoot b sv := by
  intro k hk c
  obtain ⟨cur, hc⟩ := h.block hk
  rcases mem_rfoot.1 c with rfl | c
  · have := hs.blk; rw [hc] at this; simp at this
  · exact rows_apart hs.row h c hk
theorem RStep.rbeside {w w4 w5 : World} {b : Nat} {sv sv2 : Value} {L : List Tm} {nv : Value} {acc : List Nat} {ob : Obj} (h : RStep w w4 b sv sv2 L) (hn : NRow w.heap.size w4 nv acc) (hg : (w4.alloc ob).grownBy w5 nv.ownBlock) : RStep w w5 b sv sv2 L := by
  have f1 : Fr nv.ownBlock.toList w4 w5 := ((Fr.refl nv.ownBlock.toList w4).alloc ob).tr (Fr.ofGrown hg)
  have hd := hn.rfoot h.st
  refine ⟨h.st.keep f1 (fun x hx c => hd x (by simpa using c) hx), ?_, h.place⟩
  exact h.fr.trans f1 (fun _ _ c => c) (fun x hx c => by have := (hn.lt x (by simpa using c)).1; omega)

set_option maxRecDepth 100000 in
set_option maxHeartbeats 4000000 in
theorem rlist_any (b : Nat) (sv : Value) (L : List Tm) (v : Value) (l : List Int) (w : World) (h : Rs w b sv L) (hv : NIs w v l) (hsep : l ≠ [] → ∀ k, v.ownBlock = some k → k ∉ rfoot b sv) :
    Calls Try.prog 11 #[.pointer (some ⟨b, 0, none⟩), v] w fun e w' => e = .returned (.tuple #[.int .i64 (ls L l).2.1, .int .i64 (ls L l).2.2]) ∧ ∃ sv', RStep w w' b sv sv' (ls L l).1 := by
  have KH := fun x => there_any b sv L x w h
  have hv' := hv
  obtain ⟨a, cap, rfl, hl, hz, hc⟩ := hv'
  obtain ⟨N, hN⟩ : ∃ N, N = l.length := ⟨_, rfl⟩
  rw [← hN]
  have hNb : (N : Int) ≤ 140737488355328 := by omega
  have HN := hide hN
  have HH := hide h
  have HV := hide hv
  have HKH := hide KH
  clear hN hl h hv KH
  go_enter Try.func11, Try.ntmps11
  go_wp2_with fail
  go_loopw [6] (fun iv wr => ∃ k : Nat, k ≤ N ∧ iv = .int .i64 (k : Int) ∧ wr = w ∧ Hid ((l.take k).all (thr L.length) = true)) (fun iv _ => (N - intOf iv).toNat)
  case atStart => exact ⟨0, Nat.zero_le _, rfl, rfl, by simp [Hid]⟩
  case round =>
    obtain ⟨k, hk, rfl, hwr, HA⟩ := hrel
    obtain rfl : w = wr := hwr.symm
    by_cases hlt : k < N
    · obtain ⟨z, hzk⟩ : ∃ z, l[k]? = some z := ⟨_, List.getElem?_eq_getElem (by rw [← unhide HN]; exact hlt)⟩
      rcases hc with hc | ⟨g, o, rfl, hc⟩
      · rw [hc] at hzk; simp at hzk
      · have cz := hc k z hzk
        have KZ := unhide HKH z
        cases ht : thr L.length z
        · have e : ls L l = (L, 0, 1) := by
            unfold ls
            rw [if_neg]
            intro c
            have := List.all_eq_true.1 c z (List.mem_of_getElem? hzk)
            rw [ht] at this; cases this
          rw [ht] at KZ
          have HE := hide e
          clear hzk e ht hc hz
          go_wp2_with fail
          refine KZ.mono ?_
          rintro e w2 ⟨rfl, rfl⟩
          go_wp2_with fail
          go_ret2
          exact ⟨ls_end (unhide HE), _, rls_step (unhide HE) (RStep.refl (unhide HH))⟩
        · have HA' : Hid ((l.take (k + 1)).all (thr L.length) = true) := by
            unfold Hid
            rw [List.take_add_one, hzk]
            simp [ht]
            exact (by simpa using unhide HA)
          rw [ht] at KZ
          clear hzk ht hc hz HA
          go_wp2_with fail
          refine KZ.mono ?_
          rintro e w2 ⟨rfl, rfl⟩
          go_wp2_with fail
          go_roundw
          case rel => exact ⟨k + 1, by omega, by go_num, trivial, HA'⟩
          case measure => simp only [intOf]; omega
    · have hall : l.all (thr L.length) = true := by
        have := unhide HA
        rwa [List.take_of_length_le (by rw [← unhide HN]; omega)] at this
      rcases Nat.eq_zero_or_pos N with h0 | h0
      · have e : ls L l = (L, 0, 0) := by
          have : l = [] := List.length_eq_zero_iff.1 (by rw [← unhide HN]; exact h0)
          subst this; simp [ls]
        have HE := hide e
        subst h0
        clear e hall hc hz hlt HA
        go_wp2_with fail
        go_ret2
        exact ⟨ls_end (unhide HE), _, rls_step (unhide HE) (RStep.refl (unhide HH))⟩
      · obtain ⟨q, hq⟩ : ∃ q, N = q + 1 := ⟨N - 1, by omega⟩
        subst hq
        obtain ⟨n0, hn0⟩ : ∃ z, l[q]? = some z := ⟨_, List.getElem?_eq_getElem (by rw [← unhide HN]; omega)⟩
        have hstart : lsF L (l.take q).reverse n0 = ls L l := by
          have e : l = l.take q ++ [n0] := by
            have e1 : l.take (q + 1) = l := List.take_of_length_le (by rw [← unhide HN]; omega)
            rw [List.take_add_one, hn0] at e1
            exact e1.symm
          unfold ls
          rw [if_pos hall]
          conv => rhs; rw [e]
          rw [List.reverse_append]
          rfl
        rcases hc with hc | ⟨g, o, rfl, hc⟩
        · rw [hc] at hn0; simp at hn0
        have cn := hc q n0 hn0
        have hn0b := hz n0 (List.mem_of_getElem? hn0)
        have HC := hide (And.intro hc hz)
        have HS := hide hstart
        have HSep := hide hsep
        obtain ⟨k', rfl⟩ : ∃ k', k = k' := ⟨k, rfl⟩
        have hqb : (q : Int) ≤ 140737488355328 := by omega
        have hkq : (k : Int) = (q : Int) + 1 := by omega
        clear hall hc hz hn0 hstart HA hsep HKH hNb
        obtain rfl : k = q + 1 := by omega
        clear hk hlt h0 hkq
        go_wp2_with fail
        go_loopw [7, 8] (fun nv iv wq => ∃ (j : Nat) (L' : List Tm) (sv' : Value) (n : Int), j ≤ q ∧ iv = .int .i64 ((j : Int) - 1) ∧ nv = .int .i64 n ∧ (-9223372036854775808 ≤ n ∧ n ≤ 9223372036854775807) ∧ Hid (lsF L' (l.take j).reverse n = ls L l) ∧ RStep w wq b sv sv' L') (fun _ iv _ => (intOf iv + 1).toNat)
        case atStart => exact ⟨q, L, sv, n0, Nat.le_refl _, by go_num, rfl, hn0b, HS, RStep.refl (unhide HH)⟩
        case round =>
          obtain ⟨j, L', sv', n, hj, rfl, rfl, hnb, HF, hst⟩ := hrel
          rcases Nat.eq_zero_or_pos j with hj0 | hj0
          · subst hj0
            have e : ls L l = (L', n, 0) := by have := unhide HF; simpa [lsF] using this.symm
            have HE := hide e
            clear e HF
            go_wp2_with fail
            go_ret2
            exact ⟨ls_end (unhide HE), _, rls_step (unhide HE) hst⟩
          · obtain ⟨j', rfl⟩ : ∃ j', j = j' + 1 := ⟨j - 1, by omega⟩
            obtain ⟨z, hzj⟩ : ∃ z, l[j']? = some z := ⟨_, List.getElem?_eq_getElem (by rw [← unhide HN]; omega)⟩
            have hzb := (unhide HC).2 z (List.mem_of_getElem? hzj)
            have cz : wr.cell? ⟨g, o + j', none⟩ = some (.int .i64 z) := by
              have := (unhide HC).1 j' z hzj
              rw [World.cell?_of_block (w := w) (hst.fr.block g (lt_of_cell this) (unhide HSep (fun c => by rw [c] at hzj; simp at hzj) g rfl))]
              exact this
            have htk : (l.take (j' + 1)).reverse = z :: (l.take j').reverse := by rw [List.take_add_one, hzj]; simp
            have hF := unhide HF
            rw [htk] at hF
            have hok : (⟨3, 0, z, n⟩ : Tm).ok := ⟨by simp, by simp, by simp, by simp, hzb.1, hzb.2, hnb.1, hnb.2⟩
            have KM := rmake_any b sv' L' ⟨3, 0, z, n⟩ _ hst.st hok
            have hG := hst.st.good
            have hNm := mkN_bd hG ⟨3, 0, z, n⟩
            have hjb : (j' : Int) ≤ 140737488355328 := by omega
            have hjq : (j' : Int) < (q : Int) + 1 := by omega
            simp only at KM
            clear htk HF hzj hG
            by_cases he : mkE L' ⟨3, 0, z, n⟩ = 0
            · have HF' : Hid (lsF (mkL L' ⟨3, 0, z, n⟩) (l.take j').reverse (mkN L' ⟨3, 0, z, n⟩ : Nat) = ls L l) := by
                unfold Hid; rw [← hF]; simp [lsF, he]
              rw [he] at KM
              clear he hF
              generalize mkN L' ⟨3, 0, z, n⟩ = n' at *
              generalize mkL L' ⟨3, 0, z, n⟩ = L2 at *
              go_wp2_with fail
              refine KM.mono ?_
              rintro e w4 ⟨rfl, sv2, hst2⟩
              have hst3 := hst.trans hst2
              clear hst2
              go_wp2_with fail
              go_roundw
              case rel => exact ⟨j', L2, sv2, n', by omega, by go_num, rfl, by omega, HF', hst3⟩
              case measure => simp only [intOf]; omega
            · have e : ls L l = (mkL L' ⟨3, 0, z, n⟩, 0, mkE L' ⟨3, 0, z, n⟩) := by rw [← hF]; simp [lsF, he]
              have HE := hide e
              have z1 : (mkE L' ⟨3, 0, z, n⟩ == 0) = false := by simpa using he
              clear e hF
              generalize mkN L' ⟨3, 0, z, n⟩ = n' at *
              generalize mkL L' ⟨3, 0, z, n⟩ = L2 at *
              generalize mkE L' ⟨3, 0, z, n⟩ = e2 at *
              go_wp2_with fail
              refine KM.mono ?_
              rintro e w4 ⟨rfl, sv2, hst2⟩
              have hst3 := hst.trans hst2
              clear hst2
              go_wp2_with fail
              go_ret2
              exact ⟨ls_end (unhide HE), _, rls_step (unhide HE) hst3⟩

set_option maxRecDepth 100000 in
set_option maxHeartbeats 4000000 in
theorem rdata_any (b : Nat) (sv : Value) (L : List Tm) (v : Value) (l : List Int) (w : World) (h : Rs w b sv L) (hv : NIs w v l) (hsep : l ≠ [] → ∀ k, v.ownBlock = some k → k ∉ rfoot b sv) (hlen : l.length ≤ 1000) :
    Calls Try.prog 13 #[.pointer (some ⟨b, 0, none⟩), v] w fun e w' => e = .returned (.tuple #[.int .i64 (dt L l).2.1, .int .i64 (dt L l).2.2]) ∧ ∃ sv', RStep w w' b sv sv' (dt L l).1 := by
  obtain ⟨a, cap, rfl, hl, hz, hc⟩ := hv
  obtain ⟨N, hN⟩ : ∃ N, N = l.length := ⟨_, rfl⟩
  rw [← hN]
  have hNb : N ≤ 1000 := by omega
  obtain ⟨j0, hj, hy0, hy1, hy2⟩ := info_parts Try.infoInt
  have HN := hide hN
  have HH := hide h
  have HC := hide (And.intro hc (And.intro hz hsep))
  clear hN hl h hc hz hsep hlen
  go_enter Try.func13, Try.ntmps13
  go_wp2_with fail
  go_loopw [6, 7] (fun nv iv wr => ∃ (k : Nat) (L' : List Tm) (sv' : Value) (acc : List Nat), k ≤ N ∧ iv = .int .i64 (k : Int) ∧ acc.length ≤ k ∧ Hid (dtF L' (l.drop k) acc = dt L l ∧ NRow w.heap.size wr nv acc ∧ RStep w wr b sv sv' L' ∧ ∀ m ∈ acc, m ≤ 1048576)) (fun _ iv _ => (N - intOf iv).toNat)
  case atStart => exact ⟨0, L, sv, [], Nat.zero_le _, rfl, by simp, ⟨by simp [dt], NRow.nil _ _, RStep.refl (unhide HH), by simp⟩⟩
  case round =>
    obtain ⟨k, L', sv', acc, hk, rfl, hak, HR⟩ := hrel
    by_cases hlt : k < N
    · obtain ⟨z, hzk⟩ : ∃ z, l[k]? = some z := ⟨_, List.getElem?_eq_getElem (by rw [← unhide HN]; exact hlt)⟩
      obtain ⟨hF, hn, hst, hm⟩ := unhide HR
      have hzb := (unhide HC).2.1 z (List.mem_of_getElem? hzk)
      obtain ⟨g, o, rfl, cz⟩ : ∃ g o, a = some ⟨g, o, none⟩ ∧ wr.cell? ⟨g, o + k, none⟩ = some (.int .i64 z) := by
        rcases (unhide HC).1 with hc | ⟨g, o, rfl, hc⟩
        · rw [hc] at hzk; simp at hzk
        · refine ⟨g, o, rfl, ?_⟩
          have := hc k z hzk
          rw [World.cell?_of_block (w := w) (hst.fr.block g (lt_of_cell this) ((unhide HC).2.2 (fun c => by rw [c] at hzk; simp at hzk) g rfl))]
          exact this
      have hdr : l.drop k = z :: l.drop (k + 1) := by
        rw [List.drop_eq_getElem_cons (by rw [← unhide HN]; exact hlt)]
        congr 1
        have := List.getElem?_eq_getElem (l := l) (i := k) (by rw [← unhide HN]; exact hlt)
        rw [hzk] at this; exact (Option.some.inj this).symm
      rw [hdr] at hF
      have hok : (⟨2, z, 0, 0⟩ : Tm).ok := ⟨by simp, by simp, hzb.1, hzb.2, by simp, by simp, by simp, by simp⟩
      have KM := rmake_any b sv' L' ⟨2, z, 0, 0⟩ _ hst.st hok
      have hNm := mkN_bd hst.st.good ⟨2, z, 0, 0⟩
      simp only at KM
      have hF2 : ∀ w4 sv2, RStep wr w4 b sv' sv2 (mkL L' ⟨2, z, 0, 0⟩) → NRow w.heap.size w4 u6 acc ∧ RStep w w4 b sv sv2 (mkL L' ⟨2, z, 0, 0⟩) := fun w4 sv2 h2 =>
        ⟨hn.keep (fun x hx => h2.fr.block x (hn.lt x hx).2 (hn.rfoot hst.st x hx)), hst.trans h2⟩
      have hsz := hst.fr.size
      clear HR hdr hzk hn hst
      by_cases he : mkE L' ⟨2, z, 0, 0⟩ = 0
      · have HF' : Hid (dtF (mkL L' ⟨2, z, 0, 0⟩) (l.drop (k + 1)) (acc ++ [mkN L' ⟨2, z, 0, 0⟩]) = dt L l) := by
          unfold Hid; rw [← hF]; simp [dtF, he]
        rw [he] at KM
        have HNm := hide hNm
        have HF2 := hide hF2
        have HMM := hide hm
        clear he hF hNm hF2 hm
        generalize mkN L' ⟨2, z, 0, 0⟩ = n' at *
        generalize mkL L' ⟨2, z, 0, 0⟩ = L2 at *
        go_wp2_with fail
        refine KM.mono ?_
        rintro e w4 ⟨rfl, sv2, hst2⟩
        have h4 := hst2.fr.size
        obtain ⟨hn4, hst4⟩ := unhide HF2 w4 sv2 hst2
        clear KM hst2
        have hrow : w4.ownsRow w.heap.size 3 1 u6 acc.length (acc.map (fun m => .int .i64 ((m : Nat) : Int))) := hn4
        have HS4 := hide (And.intro hn4 hst4)
        clear hn4 hst4 HF2
        go_wp2_with (at_builtin; refine wpList_append_own_at _ rfl (.tmp 29) (.tmp 31) 23 rfl w.heap.size 3 j0 (.int .i64 0) 1 8 Try.underlying23 hj hy0 hy1 hy2 rfl (by decide) _ acc.length _ rfl (World.ownsRow.alloc hrow _) ⟨w4.heap.size, 0, none⟩ 1 1 [_] rfl rfl (cell_one_new _ _ _) ?c2 ?c3 ?c4 ?c5 ?nx)
        case c2 => intro u hu; simp at hu; subst hu; rfl
        case c3 => unfold maxLen; omega
        case c4 => omega
        case c5 => simp; omega
        case nx =>
          intro v' w5 hown' hgrow _ _
          have hn5 : NRow w.heap.size w5 v' (acc ++ [n']) := NRow.grown hown'
          have hst5 := (unhide HS4).2.rbeside (unhide HS4).1 hgrow
          have hm5 : ∀ m ∈ acc ++ [n'], m ≤ 1048576 := fun m hm => by
            rcases List.mem_append.1 hm with c | c
            · exact unhide HMM m c
            · simp at c; subst c; have := unhide HNm; omega
          have HR5 : Hid (dtF L2 (l.drop (k + 1)) (acc ++ [n']) = dt L l ∧ NRow w.heap.size w5 v' (acc ++ [n']) ∧ RStep w w5 b sv sv2 L2 ∧ ∀ m ∈ acc ++ [n'], m ≤ 1048576) := ⟨unhide HF', hn5, hst5, hm5⟩
          clear hown' hgrow hn5 hst5 hm5 HS4
          go_wp2_with fail
          go_roundw
          case rel => exact ⟨k + 1, L2, sv2, acc ++ [n'], by omega, by go_num, by simp; omega, HR5⟩
          case measure => simp only [intOf]; omega
      · have e : dt L l = (mkL L' ⟨2, z, 0, 0⟩, 0, mkE L' ⟨2, z, 0, 0⟩) := by rw [← hF]; simp [dtF, he]
        have HE := hide e
        have HF2 := hide hF2
        have z1 : (mkE L' ⟨2, z, 0, 0⟩ == 0) = false := by simpa using he
        clear e hF hNm hF2 hm
        generalize mkN L' ⟨2, z, 0, 0⟩ = n' at *
        generalize mkL L' ⟨2, z, 0, 0⟩ = L2 at *
        generalize mkE L' ⟨2, z, 0, 0⟩ = e2 at *
        go_wp2_with fail
        refine KM.mono ?_
        rintro e w4 ⟨rfl, sv2, hst2⟩
        have hst3 := (unhide HF2 w4 sv2 hst2).2
        clear hst2 HF2 KM
        go_wp2_with fail
        go_ret2
        exact ⟨ls_end (unhide HE), _, rls_step (unhide HE) hst3⟩
    · obtain ⟨hF, hn, hst, hm⟩ := unhide HR
      have hd : l.drop k = [] := List.drop_eq_nil_of_le (by rw [← unhide HN]; omega)
      rw [hd] at hF
      have KL := rlist_any b sv' L' u6 (acc.map fun (m : Nat) => (m : Int)) wr hst.st (hn.nis (by omega) hm) (fun _ => hn.rfoot hst.st)
      have e : ls L' (acc.map fun (m : Nat) => (m : Int)) = dt L l := hF
      rw [e] at KL
      have HST := hide hst
      clear HR hd hF e hn hst hm HC
      go_wp2_with fail
      refine KL.mono ?_
      rintro e w4 ⟨rfl, sv2, hst2⟩
      have hst3 := (unhide HST).trans hst2
      clear hst2 KL
      go_wp2_with fail
      go_ret2
      exact ⟨rfl, _, hst3⟩

end Go.Proofs.Yticljbimbbiedaa
