/- Contracts of New, List and Data of package term. -/
import Derived.Test.YtokdflbajnecpaaNTmE
namespace Go.Proofs.Ytokdflbajnecpaa.Tn
open Go.RowKit Go.Maps

set_option maxRecDepth 100000 in
set_option maxHeartbeats 400000 in
theorem new_any (w : World) :
    Calls Try.prog 25 #[] w fun e w' => ∃ b mb, e = .returned (.pointer (some ⟨b, 0, none⟩)) ∧ St w' b (.slice none 0 0) mb [] ∧ (∀ x ∈ foot b (.slice none 0 0) mb, w.heap.size ≤ x) ∧ Below w.heap.size w w' := by
  have hmm := @run_makeMap Try.prog
  go_enter Try.func25, Try.ntmps25
  go_wp2
  go_ret
  refine ⟨w.heap.size + 1, w.heap.size, rfl, ⟨?_, TmRow.nil _ _, ?_, good_nil, by simp⟩, ?_, ?_⟩
  · have e : (w.alloc (.map #[] 0)).heap.size = w.heap.size + 1 := by simp
    rw [← e]; exact heap_alloc_new _ _
  · exact (TMap.made w).keep (Below.heap_alloc _ _ _ (by simp))
  · intro x hx
    rcases mem_foot.1 hx with rfl | rfl | hx
    · omega
    · omega
    · cases hx
  · exact ((Below.refl _ _).alloc (Nat.le_refl _) _).alloc (by simp) _

/-- A slice that reads as these numbers. -/
def NIs (w : World) (v : Value) (l : List Int) : Prop :=
  ∃ a cap, v = .slice a l.length cap ∧ l.length ≤ 140737488355328 ∧ (∀ z ∈ l, -9223372036854775808 ≤ z ∧ z ≤ 9223372036854775807) ∧ (l = [] ∨ ∃ g o, a = some ⟨g, o, none⟩ ∧ ∀ i z, l[i]? = some z → w.cell? ⟨g, o + i, none⟩ = some (.int .i64 z))
theorem NIs.fr {S : List Nat} {w w' : World} {v : Value} {l : List Int} (h : NIs w v l) (hb : Fr S w w') (hS : ∀ k, v.ownBlock = some k → k ∉ S) : NIs w' v l := by
  obtain ⟨a, cap, rfl, hl, hz, hc⟩ := h
  refine ⟨a, cap, rfl, hl, hz, ?_⟩
  rcases hc with hc | ⟨g, o, rfl, hc⟩
  · exact Or.inl hc
  · refine Or.inr ⟨g, o, rfl, fun i z ht => ?_⟩
    have := hc i z ht
    rw [World.cell?_of_block (w := w) (hb.block g (lt_of_cell this) (hS g rfl))]
    exact this
theorem NIs.bw {w w' : World} {v : Value} {l : List Int} (h : NIs w v l) (hb : Below w.heap.size w w') : NIs w' v l := h.fr (Fr.ofBelow hb) (by simp)

/-- Pairs, from the end on. -/
def lsF : List Tm → List Int → Int → List Tm × Int × Int
  | L, [], n => (L, n, 0)
  | L, a :: r, n => if mkE L ⟨3, 0, a, n⟩ = 0 then lsF (mkL L ⟨3, 0, a, n⟩) r (mkN L ⟨3, 0, a, n⟩ : Nat) else (mkL L ⟨3, 0, a, n⟩, 0, mkE L ⟨3, 0, a, n⟩)
/-- The list of terms: the terms then, its number, the error. -/
def ls (L : List Tm) (l : List Int) : List Tm × Int × Int :=
  if l.all (thr L.length) = true then (match l.reverse with | [] => (L, 0, 0) | n :: r => lsF L r n) else (L, 0, 1)

theorem mkN_bd {L : List Tm} (h : Good L) (t : Tm) : (mkN L t : Int) ≤ 1048576 := by
  have := h.len
  unfold mkN
  split
  · split
    · have := num_le L t; omega
    · split <;> omega
  · omega

theorem ret_two {a b c d : Int} (h1 : a = b) (h2 : c = d) : Ending.returned (.tuple #[.int .i64 a, .int .i64 c]) = .returned (.tuple #[.int .i64 b, .int .i64 d]) := by rw [h1, h2]

theorem ls_end {p : List Tm × Int × Int} {L' : List Tm} {n e : Int} (h : p = (L', n, e)) : Ending.returned (.tuple #[.int .i64 n, .int .i64 e]) = .returned (.tuple #[.int .i64 p.2.1, .int .i64 p.2.2]) := by subst h; rfl
theorem ls_step {p : List Tm × Int × Int} {L' : List Tm} {n e : Int} {w w' : World} {b : Nat} {sv sv' : Value} {mb : Nat} (h : p = (L', n, e)) (k : SStep w w' b sv sv' mb L') : SStep w w' b sv sv' mb p.1 := by subst h; exact k

set_option maxRecDepth 100000 in
set_option maxHeartbeats 4000000 in
theorem list_any (b : Nat) (sv : Value) (mb : Nat) (L : List Tm) (v : Value) (l : List Int) (w : World) (h : St w b sv mb L) (hv : NIs w v l) (hsep : ∀ k, v.ownBlock = some k → k ∉ foot b sv mb) :
    Calls Try.prog 63 #[.pointer (some ⟨b, 0, none⟩), v] w fun e w' => e = .returned (.tuple #[.int .i64 (ls L l).2.1, .int .i64 (ls L l).2.2]) ∧ ∃ sv', SStep w w' b sv sv' mb (ls L l).1 := by
  have K := missing_any b sv mb L w h
  have KH := fun x => has_any b sv mb L x w h
  have hv' := hv
  obtain ⟨a, cap, rfl, hl, hz, hc⟩ := hv'
  obtain ⟨N, hN⟩ : ∃ N, N = l.length := ⟨_, rfl⟩
  rw [← hN]
  have hNb : (N : Int) ≤ 140737488355328 := by omega
  have HN := hide hN
  have HH := hide h
  have HV := hide hv
  have HKH := hide KH
  clear hN hl h hv KH
  go_enter Try.func63, Try.ntmps63
  go_wp2_with fail
  refine K.mono ?_
  rintro e w ⟨rfl, rfl⟩
  go_wp2_with fail
  go_loopw [15] (fun iv wr => ∃ k : Nat, k ≤ N ∧ iv = .int .i64 (k : Int) ∧ wr = w ∧ Hid ((l.take k).all (thr L.length) = true)) (fun iv _ => (N - intOf iv).toNat)
  case atStart => exact ⟨0, Nat.zero_le _, rfl, rfl, by simp [Hid]⟩
  case round =>
    obtain ⟨k, hk, rfl, hwr, HA⟩ := hrel
    obtain rfl : w = wr := hwr.symm
    by_cases hlt : k < N
    · obtain ⟨z, hzk⟩ : ∃ z, l[k]? = some z := ⟨_, List.getElem?_eq_getElem (by rw [← unhide HN]; exact hlt)⟩
      rcases hc with hc | ⟨g, o, rfl, hc⟩
      · rw [hc] at hzk; simp at hzk
      · have cz := hc k z hzk
        have KZ := unhide HKH z
        cases ht : thr L.length z
        · have e : ls L l = (L, 0, 1) := by
            unfold ls
            rw [if_neg]
            intro c
            have := List.all_eq_true.1 c z (List.mem_of_getElem? hzk)
            rw [ht] at this; cases this
          rw [ht] at KZ
          have HE := hide e
          clear hzk e ht hc hz
          go_wp2_with fail
          refine KZ.mono ?_
          rintro e w2 ⟨rfl, rfl⟩
          go_wp2_with fail
          go_ret2
          exact ⟨ls_end (unhide HE), _, ls_step (unhide HE) (SStep.refl (unhide HH))⟩
        · have HA' : Hid ((l.take (k + 1)).all (thr L.length) = true) := by
            unfold Hid
            rw [List.take_add_one, hzk]
            simp [ht]
            exact (by simpa using unhide HA)
          rw [ht] at KZ
          clear hzk ht hc hz HA
          go_wp2_with fail
          refine KZ.mono ?_
          rintro e w2 ⟨rfl, rfl⟩
          go_wp2_with fail
          go_roundw
          case rel => exact ⟨k + 1, by omega, by go_num, trivial, HA'⟩
          case measure => simp only [intOf]; omega
    · have hall : l.all (thr L.length) = true := by
        have := unhide HA
        rwa [List.take_of_length_le (by rw [← unhide HN]; omega)] at this
      rcases Nat.eq_zero_or_pos N with h0 | h0
      · have e : ls L l = (L, 0, 0) := by
          have : l = [] := List.length_eq_zero_iff.1 (by rw [← unhide HN]; exact h0)
          subst this; simp [ls]
        have HE := hide e
        subst h0
        clear e hall hc hz hlt HA
        go_wp2_with fail
        go_ret2
        exact ⟨ls_end (unhide HE), _, ls_step (unhide HE) (SStep.refl (unhide HH))⟩
      · obtain ⟨q, hq⟩ : ∃ q, N = q + 1 := ⟨N - 1, by omega⟩
        subst hq
        obtain ⟨n0, hn0⟩ : ∃ z, l[q]? = some z := ⟨_, List.getElem?_eq_getElem (by rw [← unhide HN]; omega)⟩
        have hstart : lsF L (l.take q).reverse n0 = ls L l := by
          have e : l = l.take q ++ [n0] := by
            have e1 : l.take (q + 1) = l := List.take_of_length_le (by rw [← unhide HN]; omega)
            rw [List.take_add_one, hn0] at e1
            exact e1.symm
          unfold ls
          rw [if_pos hall]
          conv => rhs; rw [e]
          rw [List.reverse_append]
          rfl
        rcases hc with hc | ⟨g, o, rfl, hc⟩
        · rw [hc] at hn0; simp at hn0
        have cn := hc q n0 hn0
        have hn0b := hz n0 (List.mem_of_getElem? hn0)
        have HC := hide (And.intro hc hz)
        have HS := hide hstart
        have HSep := hide hsep
        obtain ⟨k', rfl⟩ : ∃ k', k = k' := ⟨k, rfl⟩
        have hqb : (q : Int) ≤ 140737488355328 := by omega
        have hkq : (k : Int) = (q : Int) + 1 := by omega
        clear hall hc hz hn0 hstart HA hsep HKH hNb
        obtain rfl : k = q + 1 := by omega
        clear hk hlt h0 hkq
        go_wp2_with fail
        go_loopw [8, 9] (fun nv iv wq => ∃ (j : Nat) (L' : List Tm) (sv' : Value) (n : Int), j ≤ q ∧ iv = .int .i64 ((j : Int) - 1) ∧ nv = .int .i64 n ∧ (-9223372036854775808 ≤ n ∧ n ≤ 9223372036854775807) ∧ Hid (lsF L' (l.take j).reverse n = ls L l) ∧ SStep w wq b sv sv' mb L') (fun _ iv _ => (intOf iv + 1).toNat)
        case atStart => exact ⟨q, L, sv, n0, Nat.le_refl _, by go_num, rfl, hn0b, HS, SStep.refl (unhide HH)⟩
        case round =>
          obtain ⟨j, L', sv', n, hj, rfl, rfl, hnb, HF, hst⟩ := hrel
          rcases Nat.eq_zero_or_pos j with hj0 | hj0
          · subst hj0
            have e : ls L l = (L', n, 0) := by have := unhide HF; simpa [lsF] using this.symm
            have HE := hide e
            clear e HF
            go_wp2_with fail
            go_ret2
            exact ⟨ls_end (unhide HE), _, ls_step (unhide HE) hst⟩
          · obtain ⟨j', rfl⟩ : ∃ j', j = j' + 1 := ⟨j - 1, by omega⟩
            obtain ⟨z, hzj⟩ : ∃ z, l[j']? = some z := ⟨_, List.getElem?_eq_getElem (by rw [← unhide HN]; omega)⟩
            have hzb := (unhide HC).2 z (List.mem_of_getElem? hzj)
            have cz : wr.cell? ⟨g, o + j', none⟩ = some (.int .i64 z) := by
              have := (unhide HC).1 j' z hzj
              rw [World.cell?_of_block (w := w) (hst.fr.block g (lt_of_cell this) (unhide HSep g rfl))]
              exact this
            have htk : (l.take (j' + 1)).reverse = z :: (l.take j').reverse := by rw [List.take_add_one, hzj]; simp
            have hF := unhide HF
            rw [htk] at hF
            have hok : (⟨3, 0, z, n⟩ : Tm).ok := ⟨by simp, by simp, by simp, by simp, hzb.1, hzb.2, hnb.1, hnb.2⟩
            have KM := make_any b sv' mb L' ⟨3, 0, z, n⟩ _ hst.st hok
            have hG := hst.st.good
            have hNm := mkN_bd hG ⟨3, 0, z, n⟩
            have hjb : (j' : Int) ≤ 140737488355328 := by omega
            have hjq : (j' : Int) < (q : Int) + 1 := by omega
            simp only at KM
            clear htk HF hzj hG
            by_cases he : mkE L' ⟨3, 0, z, n⟩ = 0
            · have HF' : Hid (lsF (mkL L' ⟨3, 0, z, n⟩) (l.take j').reverse (mkN L' ⟨3, 0, z, n⟩ : Nat) = ls L l) := by
                unfold Hid; rw [← hF]; simp [lsF, he]
              rw [he] at KM
              clear he hF
              generalize mkN L' ⟨3, 0, z, n⟩ = n' at *
              generalize mkL L' ⟨3, 0, z, n⟩ = L2 at *
              go_wp2_with fail
              refine KM.mono ?_
              rintro e w4 ⟨rfl, sv2, hst2⟩
              have hst3 := hst.trans hst2
              clear hst2
              go_wp2_with fail
              go_roundw
              case rel => exact ⟨j', L2, sv2, n', by omega, by go_num, rfl, by omega, HF', hst3⟩
              case measure => simp only [intOf]; omega
            · have e : ls L l = (mkL L' ⟨3, 0, z, n⟩, 0, mkE L' ⟨3, 0, z, n⟩) := by rw [← hF]; simp [lsF, he]
              have HE := hide e
              have z1 : (mkE L' ⟨3, 0, z, n⟩ == 0) = false := by simpa using he
              clear e hF
              generalize mkN L' ⟨3, 0, z, n⟩ = n' at *
              generalize mkL L' ⟨3, 0, z, n⟩ = L2 at *
              generalize mkE L' ⟨3, 0, z, n⟩ = e2 at *
              go_wp2_with fail
              refine KM.mono ?_
              rintro e w4 ⟨rfl, sv2, hst2⟩
              have hst3 := hst.trans hst2
              clear hst2
              go_wp2_with fail
              go_ret2
              exact ⟨ls_end (unhide HE), _, ls_step (unhide HE) hst3⟩

end Go.Proofs.Ytokdflbajnecpaa.Tn
