/- The contract of Data of package term. -/
import Derived.Test.YtokdflbajnecpaaNTmF
namespace Go.Proofs.Ytokdflbajnecpaa.Tn
open Go.RowKit Go.Maps

/-- Public numbers, one behind the other, then their list. -/
def dtF : List Tm → List Int → List Nat → List Tm × Int × Int
  | L, [], acc => ls L (acc.map fun (m : Nat) => (m : Int))
  | L, n :: r, acc => if mkE L ⟨2, n, 0, 0⟩ = 0 then dtF (mkL L ⟨2, n, 0, 0⟩) r (acc ++ [mkN L ⟨2, n, 0, 0⟩]) else (mkL L ⟨2, n, 0, 0⟩, 0, mkE L ⟨2, n, 0, 0⟩)
def dt (L : List Tm) (l : List Int) : List Tm × Int × Int := dtF L l []

theorem NRow.nil (B : Nat) (w : World) : NRow B w (.slice none 0 0) [] := World.ownsRow_nil _ _ _ _
theorem NRow.foot {B : Nat} {w : World} {v : Value} {l : List Nat} {b : Nat} {sv : Value} {mb : Nat} {L : List Tm} (h : NRow B w v l) (hs : St w b sv mb L) : ∀ k, v.ownBlock = some k → k ∉ foot b sv mb := by
  intro k hk c
  obtain ⟨cur, hc⟩ := h.block hk
  rcases mem_foot.1 c with rfl | rfl | c
  · have := hs.blk; rw [hc] at this; simp at this
  · obtain ⟨es, clock, hm⟩ := hs.map.block; rw [hc] at hm; simp at hm
  · exact rows_apart hs.row h c hk
theorem NRow.nis {B : Nat} {w : World} {v : Value} {l : List Nat} (h : NRow B w v l) (hl : l.length ≤ 140737488355328) (hz : ∀ m ∈ l, m ≤ 1048576) : NIs w v (l.map fun (m : Nat) => (m : Int)) := by
  rcases h.form with ⟨rfl, rfl⟩ | ⟨g, cap, hv, _⟩
  · exact ⟨none, 0, rfl, by simp, by simp, Or.inl rfl⟩
  · refine ⟨_, cap, by rw [List.length_map]; exact hv, by simpa using hl, fun z hz' => ?_, Or.inr ⟨g, 0, rfl, fun i z hi => ?_⟩⟩
    · obtain ⟨m, hm, rfl⟩ := List.mem_map.1 hz'
      have := hz m hm; omega
    · rw [List.getElem?_map] at hi
      cases hm : l[i]? with
      | none => rw [hm] at hi; cases hi
      | some m =>
        rw [hm] at hi
        simp only [Option.map_some, Option.some.injEq] at hi
        subst hi
        rw [Nat.zero_add]
        exact h.at (by rw [hv]; rfl) hm
/-- A row of numbers grows beside a store. -/
theorem SStep.beside {w w4 w5 : World} {b : Nat} {sv sv2 : Value} {mb : Nat} {L : List Tm} {nv : Value} {acc : List Nat} {ob : Obj} (h : SStep w w4 b sv sv2 mb L) (hn : NRow w.heap.size w4 nv acc) (hg : (w4.alloc ob).grownBy w5 nv.ownBlock) : SStep w w5 b sv sv2 mb L := by
  have f1 : Fr nv.ownBlock.toList w4 w5 := ((Fr.refl nv.ownBlock.toList w4).alloc ob).tr (Fr.ofGrown hg)
  have hd := hn.foot h.st
  refine ⟨h.st.keep f1 (fun x hx c => hd x (by simpa using c) hx), ?_, h.place⟩
  exact h.fr.trans f1 (fun _ _ c => c) (fun x hx c => by have := (hn.lt x (by simpa using c)).1; omega)
theorem NRow.grown {w w4 : World} {v' : Value} {acc : List Nat} {n : Nat} (h : w4.ownsRow w.heap.size 3 1 v' (acc.length + 1) (acc.map (fun m => .int .i64 ((m : Nat) : Int)) ++ [.int .i64 (n : Int)])) : NRow w.heap.size w4 v' (acc ++ [n]) := by
  unfold NRow; simpa using h

set_option maxRecDepth 100000 in
set_option maxHeartbeats 4000000 in
theorem data_any (b : Nat) (sv : Value) (mb : Nat) (L : List Tm) (v : Value) (l : List Int) (w : World) (h : St w b sv mb L) (hv : NIs w v l) (hsep : ∀ k, v.ownBlock = some k → k ∉ foot b sv mb) (hlen : l.length ≤ 1000) :
    Calls Try.prog 66 #[.pointer (some ⟨b, 0, none⟩), v] w fun e w' => e = .returned (.tuple #[.int .i64 (dt L l).2.1, .int .i64 (dt L l).2.2]) ∧ ∃ sv', SStep w w' b sv sv' mb (dt L l).1 := by
  have K := missing_any b sv mb L w h
  obtain ⟨a, cap, rfl, hl, hz, hc⟩ := hv
  obtain ⟨N, hN⟩ : ∃ N, N = l.length := ⟨_, rfl⟩
  rw [← hN]
  have hNb : N ≤ 1000 := by omega
  obtain ⟨j0, hj, hy0, hy1, hy2⟩ := info_parts Try.infoInt
  have HN := hide hN
  have HH := hide h
  have HC := hide (And.intro hc (And.intro hz hsep))
  clear hN hl h hc hz hsep hlen
  go_enter Try.func66, Try.ntmps66
  go_wp2_with fail
  refine K.mono ?_
  rintro e w ⟨rfl, rfl⟩
  clear K
  go_wp2_with fail
  go_loopw [6, 15] (fun nv iv wr => ∃ (k : Nat) (L' : List Tm) (sv' : Value) (acc : List Nat), k ≤ N ∧ iv = .int .i64 (k : Int) ∧ acc.length ≤ k ∧ Hid (dtF L' (l.drop k) acc = dt L l ∧ NRow w.heap.size wr nv acc ∧ SStep w wr b sv sv' mb L' ∧ ∀ m ∈ acc, m ≤ 1048576)) (fun _ iv _ => (N - intOf iv).toNat)
  case atStart => exact ⟨0, L, sv, [], Nat.zero_le _, rfl, by simp, ⟨by simp [dt], NRow.nil _ _, SStep.refl (unhide HH), by simp⟩⟩
  case round =>
    obtain ⟨k, L', sv', acc, hk, rfl, hak, HR⟩ := hrel
    by_cases hlt : k < N
    · obtain ⟨z, hzk⟩ : ∃ z, l[k]? = some z := ⟨_, List.getElem?_eq_getElem (by rw [← unhide HN]; exact hlt)⟩
      obtain ⟨hF, hn, hst, hm⟩ := unhide HR
      have hzb := (unhide HC).2.1 z (List.mem_of_getElem? hzk)
      obtain ⟨g, o, rfl, cz⟩ : ∃ g o, a = some ⟨g, o, none⟩ ∧ wr.cell? ⟨g, o + k, none⟩ = some (.int .i64 z) := by
        rcases (unhide HC).1 with hc | ⟨g, o, rfl, hc⟩
        · rw [hc] at hzk; simp at hzk
        · refine ⟨g, o, rfl, ?_⟩
          have := hc k z hzk
          rw [World.cell?_of_block (w := w) (hst.fr.block g (lt_of_cell this) ((unhide HC).2.2 g rfl))]
          exact this
      have hdr : l.drop k = z :: l.drop (k + 1) := by
        rw [List.drop_eq_getElem_cons (by rw [← unhide HN]; exact hlt)]
        congr 1
        have := List.getElem?_eq_getElem (l := l) (i := k) (by rw [← unhide HN]; exact hlt)
        rw [hzk] at this; exact (Option.some.inj this).symm
      rw [hdr] at hF
      have hok : (⟨2, z, 0, 0⟩ : Tm).ok := ⟨by simp, by simp, hzb.1, hzb.2, by simp, by simp, by simp, by simp⟩
      have KM := make_any b sv' mb L' ⟨2, z, 0, 0⟩ _ hst.st hok
      have hNm := mkN_bd hst.st.good ⟨2, z, 0, 0⟩
      simp only at KM
      have hF2 : ∀ w4 sv2, SStep wr w4 b sv' sv2 mb (mkL L' ⟨2, z, 0, 0⟩) → NRow w.heap.size w4 u6 acc ∧ SStep w w4 b sv sv2 mb (mkL L' ⟨2, z, 0, 0⟩) := fun w4 sv2 h2 =>
        ⟨hn.keep (fun x hx => h2.fr.block x (hn.lt x hx).2 (hn.foot hst.st x hx)), hst.trans h2⟩
      have hsz := hst.fr.size
      clear HR hdr hzk hn hst
      by_cases he : mkE L' ⟨2, z, 0, 0⟩ = 0
      · have HF' : Hid (dtF (mkL L' ⟨2, z, 0, 0⟩) (l.drop (k + 1)) (acc ++ [mkN L' ⟨2, z, 0, 0⟩]) = dt L l) := by
          unfold Hid; rw [← hF]; simp [dtF, he]
        rw [he] at KM
        have HNm := hide hNm
        have HF2 := hide hF2
        have HMM := hide hm
        clear he hF hNm hF2 hm
        generalize mkN L' ⟨2, z, 0, 0⟩ = n' at *
        generalize mkL L' ⟨2, z, 0, 0⟩ = L2 at *
        go_wp2_with fail
        refine KM.mono ?_
        rintro e w4 ⟨rfl, sv2, hst2⟩
        have h4 := hst2.fr.size
        obtain ⟨hn4, hst4⟩ := unhide HF2 w4 sv2 hst2
        clear KM hst2
        have hrow : w4.ownsRow w.heap.size 3 1 u6 acc.length (acc.map (fun m => .int .i64 ((m : Nat) : Int))) := hn4
        have HS4 := hide (And.intro hn4 hst4)
        clear hn4 hst4 HF2
        go_wp2_with (at_builtin; refine wpList_append_own_at _ rfl (.tmp 29) (.tmp 31) 24 rfl w.heap.size 3 j0 (.int .i64 0) 1 8 Try.underlying24 hj hy0 hy1 hy2 rfl (by decide) _ acc.length _ rfl (World.ownsRow.alloc hrow _) ⟨w4.heap.size, 0, none⟩ 1 1 [_] rfl rfl (cell_one_new _ _ _) ?c2 ?c3 ?c4 ?c5 ?nx)
        case c2 => intro u hu; simp at hu; subst hu; rfl
        case c3 => unfold maxLen; omega
        case c4 => omega
        case c5 => simp; omega
        case nx =>
          intro v' w5 hown' hgrow _ _
          have hn5 : NRow w.heap.size w5 v' (acc ++ [n']) := NRow.grown hown'
          have hst5 := (unhide HS4).2.beside (unhide HS4).1 hgrow
          have hm5 : ∀ m ∈ acc ++ [n'], m ≤ 1048576 := fun m hm => by
            rcases List.mem_append.1 hm with c | c
            · exact unhide HMM m c
            · simp at c; subst c; have := unhide HNm; omega
          have HR5 : Hid (dtF L2 (l.drop (k + 1)) (acc ++ [n']) = dt L l ∧ NRow w.heap.size w5 v' (acc ++ [n']) ∧ SStep w w5 b sv sv2 mb L2 ∧ ∀ m ∈ acc ++ [n'], m ≤ 1048576) := ⟨unhide HF', hn5, hst5, hm5⟩
          clear hown' hgrow hn5 hst5 hm5 HS4
          go_wp2_with fail
          go_roundw
          case rel => exact ⟨k + 1, L2, sv2, acc ++ [n'], by omega, by go_num, by simp; omega, HR5⟩
          case measure => simp only [intOf]; omega
      · have e : dt L l = (mkL L' ⟨2, z, 0, 0⟩, 0, mkE L' ⟨2, z, 0, 0⟩) := by rw [← hF]; simp [dtF, he]
        have HE := hide e
        have HF2 := hide hF2
        have z1 : (mkE L' ⟨2, z, 0, 0⟩ == 0) = false := by simpa using he
        clear e hF hNm hF2 hm
        generalize mkN L' ⟨2, z, 0, 0⟩ = n' at *
        generalize mkL L' ⟨2, z, 0, 0⟩ = L2 at *
        generalize mkE L' ⟨2, z, 0, 0⟩ = e2 at *
        go_wp2_with fail
        refine KM.mono ?_
        rintro e w4 ⟨rfl, sv2, hst2⟩
        have hst3 := (unhide HF2 w4 sv2 hst2).2
        clear hst2 HF2 KM
        go_wp2_with fail
        go_ret2
        exact ⟨ls_end (unhide HE), _, ls_step (unhide HE) hst3⟩
    · obtain ⟨hF, hn, hst, hm⟩ := unhide HR
      have hd : l.drop k = [] := List.drop_eq_nil_of_le (by rw [← unhide HN]; omega)
      rw [hd] at hF
      have KL := list_any b sv' mb L' u6 (acc.map fun (m : Nat) => (m : Int)) wr hst.st (hn.nis (by omega) hm) (hn.foot hst.st)
      have e : ls L' (acc.map fun (m : Nat) => (m : Int)) = dt L l := hF
      rw [e] at KL
      have HST := hide hst
      clear HR hd hF e hn hst hm HC
      go_wp2_with fail
      refine KL.mono ?_
      rintro e w4 ⟨rfl, sv2, hst2⟩
      have hst3 := (unhide HST).trans hst2
      clear hst2 KL
      go_wp2_with fail
      go_ret2
      exact ⟨rfl, _, hst3⟩

end Go.Proofs.Ytokdflbajnecpaa.Tn
