/- Contracts of the document's List and Data. -/
import Derived.Test.YtokdflbajnecpaaNTmRMake
namespace Go.Proofs.Ytokdflbajnecpaa.Tn
open Go.RowKit Go.Maps

theorem rls_step {p : List Tm × Int × Int} {L' : List Tm} {n e : Int} {w w' : World} {b : Nat} {sv sv' : Value} (h : p = (L', n, e)) (k : RStep w w' b sv sv' L') : RStep w w' b sv sv' p.1 := by subst h; exact k
theorem NRow.rfoot {B : Nat} {w : World} {v : Value} {l : List Nat} {b : Nat} {sv : Value} {L : List Tm} (h : NRow B w v l) (hs : Rs w b sv L) : ∀ k, v.ownBlock = some k → k ∉ rfoot b sv := by
  intro k hk c
  obtain ⟨cur, hc⟩ := h.block hk
  rcases mem_rfoot.1 c with rfl | c
  · have := hs.blk; rw [hc] at this; simp at this
  · exact rows_apart hs.row h c hk
theorem RStep.rbeside {w w4 w5 : World} {b : Nat} {sv sv2 : Value} {L : List Tm} {nv : Value} {acc : List Nat} {ob : Obj} (h : RStep w w4 b sv sv2 L) (hn : NRow w.heap.size w4 nv acc) (hg : (w4.alloc ob).grownBy w5 nv.ownBlock) : RStep w w5 b sv sv2 L := by
  have f1 : Fr nv.ownBlock.toList w4 w5 := ((Fr.refl nv.ownBlock.toList w4).alloc ob).tr (Fr.ofGrown hg)
  have hd := hn.rfoot h.st
  refine ⟨h.st.keep f1 (fun x hx c => hd x (by simpa using c) hx), ?_, h.place⟩
  exact h.fr.trans f1 (fun _ _ c => c) (fun x hx c => by have := (hn.lt x (by simpa using c)).1; omega)

set_option maxRecDepth 100000 in
set_option maxHeartbeats 4000000 in
theorem rlist_any (b : Nat) (sv : Value) (L : List Tm) (v : Value) (l : List Int) (w : World) (h : Rs w b sv L) (hv : NIs w v l) (hsep : l ≠ [] → ∀ k, v.ownBlock = some k → k ∉ rfoot b sv) :
    Calls Try.prog 38 #[.pointer (some ⟨b, 0, none⟩), v] w fun e w' => e = .returned (.tuple #[.int .i64 (ls L l).2.1, .int .i64 (ls L l).2.2]) ∧ ∃ sv', RStep w w' b sv sv' (ls L l).1 := by
  have KH := fun x => there_any b sv L x w h
  have hv' := hv
  obtain ⟨a, cap, rfl, hl, hz, hc⟩ := hv'
  obtain ⟨N, hN⟩ : ∃ N, N = l.length := ⟨_, rfl⟩
  rw [← hN]
  have hNb : (N : Int) ≤ 140737488355328 := by omega
  have HN := hide hN
  have HH := hide h
  have HV := hide hv
  have HKH := hide KH
  clear hN hl h hv KH
  go_enter Try.func38, Try.ntmps38
  go_wp2_with fail
  go_loopw [6] (fun iv wr => ∃ k : Nat, k ≤ N ∧ iv = .int .i64 (k : Int) ∧ wr = w ∧ Hid ((l.take k).all (thr L.length) = true)) (fun iv _ => (N - intOf iv).toNat)
  case atStart => exact ⟨0, Nat.zero_le _, rfl, rfl, by simp [Hid]⟩
  case round =>
    obtain ⟨k, hk, rfl, hwr, HA⟩ := hrel
    obtain rfl : w = wr := hwr.symm
    by_cases hlt : k < N
    · obtain ⟨z, hzk⟩ : ∃ z, l[k]? = some z := ⟨_, List.getElem?_eq_getElem (by rw [← unhide HN]; exact hlt)⟩
      rcases hc with hc | ⟨g, o, rfl, hc⟩
      · rw [hc] at hzk; simp at hzk
      · have cz := hc k z hzk
        have KZ := unhide HKH z
        cases ht : thr L.length z
        · have e : ls L l = (L, 0, 1) := by
            unfold ls
            rw [if_neg]
            intro c
            have := List.all_eq_true.1 c z (List.mem_of_getElem? hzk)
            rw [ht] at this; cases this
          rw [ht] at KZ
          have HE := hide e
          clear hzk e ht hc hz
          go_wp2_with fail
          refine KZ.mono ?_
          rintro e w2 ⟨rfl, rfl⟩
          go_wp2_with fail
          go_ret2
          exact ⟨ls_end (unhide HE), _, rls_step (unhide HE) (RStep.refl (unhide HH))⟩
        · have HA' : Hid ((l.take (k + 1)).all (thr L.length) = true) := by
            unfold Hid
            rw [List.take_add_one, hzk]
            simp [ht]
            exact (by simpa using unhide HA)
          rw [ht] at KZ
          clear hzk ht hc hz HA
          go_wp2_with fail
          refine KZ.mono ?_
          rintro e w2 ⟨rfl, rfl⟩
          go_wp2_with fail
          go_roundw
          case rel => exact ⟨k + 1, by omega, by go_num, trivial, HA'⟩
          case measure => simp only [intOf]; omega
    · have hall : l.all (thr L.length) = true := by
        have := unhide HA
        rwa [List.take_of_length_le (by rw [← unhide HN]; omega)] at this
      rcases Nat.eq_zero_or_pos N with h0 | h0
      · have e : ls L l = (L, 0, 0) := by
          have : l = [] := List.length_eq_zero_iff.1 (by rw [← unhide HN]; exact h0)
          subst this; simp [ls]
        have HE := hide e
        subst h0
        clear e hall hc hz hlt HA
        go_wp2_with fail
        go_ret2
        exact ⟨ls_end (unhide HE), _, rls_step (unhide HE) (RStep.refl (unhide HH))⟩
      · obtain ⟨q, hq⟩ : ∃ q, N = q + 1 := ⟨N - 1, by omega⟩
        subst hq
        obtain ⟨n0, hn0⟩ : ∃ z, l[q]? = some z := ⟨_, List.getElem?_eq_getElem (by rw [← unhide HN]; omega)⟩
        have hstart : lsF L (l.take q).reverse n0 = ls L l := by
          have e : l = l.take q ++ [n0] := by
            have e1 : l.take (q + 1) = l := List.take_of_length_le (by rw [← unhide HN]; omega)
            rw [List.take_add_one, hn0] at e1
            exact e1.symm
          unfold ls
          rw [if_pos hall]
          conv => rhs; rw [e]
          rw [List.reverse_append]
          rfl
        rcases hc with hc | ⟨g, o, rfl, hc⟩
        · rw [hc] at hn0; simp at hn0
        have cn := hc q n0 hn0
        have hn0b := hz n0 (List.mem_of_getElem? hn0)
        have HC := hide (And.intro hc hz)
        have HS := hide hstart
        have HSep := hide hsep
        obtain ⟨k', rfl⟩ : ∃ k', k = k' := ⟨k, rfl⟩
        have hqb : (q : Int) ≤ 140737488355328 := by omega
        have hkq : (k : Int) = (q : Int) + 1 := by omega
        clear hall hc hz hn0 hstart HA hsep HKH hNb
        obtain rfl : k = q + 1 := by omega
        clear hk hlt h0 hkq
        go_wp2_with fail
        go_loopw [7, 8] (fun nv iv wq => ∃ (j : Nat) (L' : List Tm) (sv' : Value) (n : Int), j ≤ q ∧ iv = .int .i64 ((j : Int) - 1) ∧ nv = .int .i64 n ∧ (-9223372036854775808 ≤ n ∧ n ≤ 9223372036854775807) ∧ Hid (lsF L' (l.take j).reverse n = ls L l) ∧ RStep w wq b sv sv' L') (fun _ iv _ => (intOf iv + 1).toNat)
        case atStart => exact ⟨q, L, sv, n0, Nat.le_refl _, by go_num, rfl, hn0b, HS, RStep.refl (unhide HH)⟩
        case round =>
          obtain ⟨j, L', sv', n, hj, rfl, rfl, hnb, HF, hst⟩ := hrel
          rcases Nat.eq_zero_or_pos j with hj0 | hj0
          · subst hj0
            have e : ls L l = (L', n, 0) := by have := unhide HF; simpa [lsF] using this.symm
            have HE := hide e
            clear e HF
            go_wp2_with fail
            go_ret2
            exact ⟨ls_end (unhide HE), _, rls_step (unhide HE) hst⟩
          · obtain ⟨j', rfl⟩ : ∃ j', j = j' + 1 := ⟨j - 1, by omega⟩
            obtain ⟨z, hzj⟩ : ∃ z, l[j']? = some z := ⟨_, List.getElem?_eq_getElem (by rw [← unhide HN]; omega)⟩
            have hzb := (unhide HC).2 z (List.mem_of_getElem? hzj)
            have cz : wr.cell? ⟨g, o + j', none⟩ = some (.int .i64 z) := by
              have := (unhide HC).1 j' z hzj
              rw [World.cell?_of_block (w := w) (hst.fr.block g (lt_of_cell this) (unhide HSep (fun c => by rw [c] at hzj; simp at hzj) g rfl))]
              exact this
            have htk : (l.take (j' + 1)).reverse = z :: (l.take j').reverse := by rw [List.take_add_one, hzj]; simp
            have hF := unhide HF
            rw [htk] at hF
            have hok : (⟨3, 0, z, n⟩ : Tm).ok := ⟨by simp, by simp, by simp, by simp, hzb.1, hzb.2, hnb.1, hnb.2⟩
            have KM := rmake_any b sv' L' ⟨3, 0, z, n⟩ _ hst.st hok
            have hG := hst.st.good
            have hNm := mkN_bd hG ⟨3, 0, z, n⟩
            have hjb : (j' : Int) ≤ 140737488355328 := by omega
            have hjq : (j' : Int) < (q : Int) + 1 := by omega
            simp only at KM
            clear htk HF hzj hG
            by_cases he : mkE L' ⟨3, 0, z, n⟩ = 0
            · have HF' : Hid (lsF (mkL L' ⟨3, 0, z, n⟩) (l.take j').reverse (mkN L' ⟨3, 0, z, n⟩ : Nat) = ls L l) := by
                unfold Hid; rw [← hF]; simp [lsF, he]
              rw [he] at KM
              clear he hF
              generalize mkN L' ⟨3, 0, z, n⟩ = n' at *
              generalize mkL L' ⟨3, 0, z, n⟩ = L2 at *
              go_wp2_with fail
              refine KM.mono ?_
              rintro e w4 ⟨rfl, sv2, hst2⟩
              have hst3 := hst.trans hst2
              clear hst2
              go_wp2_with fail
              go_roundw
              case rel => exact ⟨j', L2, sv2, n', by omega, by go_num, rfl, by omega, HF', hst3⟩
              case measure => simp only [intOf]; omega
            · have e : ls L l = (mkL L' ⟨3, 0, z, n⟩, 0, mkE L' ⟨3, 0, z, n⟩) := by rw [← hF]; simp [lsF, he]
              have HE := hide e
              have z1 : (mkE L' ⟨3, 0, z, n⟩ == 0) = false := by simpa using he
              clear e hF
              generalize mkN L' ⟨3, 0, z, n⟩ = n' at *
              generalize mkL L' ⟨3, 0, z, n⟩ = L2 at *
              generalize mkE L' ⟨3, 0, z, n⟩ = e2 at *
              go_wp2_with fail
              refine KM.mono ?_
              rintro e w4 ⟨rfl, sv2, hst2⟩
              have hst3 := hst.trans hst2
              clear hst2
              go_wp2_with fail
              go_ret2
              exact ⟨ls_end (unhide HE), _, rls_step (unhide HE) hst3⟩

end Go.Proofs.Ytokdflbajnecpaa.Tn
