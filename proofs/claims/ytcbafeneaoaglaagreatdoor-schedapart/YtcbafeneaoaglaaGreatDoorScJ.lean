/- What all statements of layer 10 end with: the secrets of an epoch. -/
import Derived.Test.YtcbafeneaoaglaaGreatDoorScI
import Derived.Test.YtcbafeneaoaglaaGreatDoorTeG
namespace Go.Proofs.YtcbafeneaoaglaaGreatDoor.Tn
open Go.RowKit Go.Maps

theorem otr_same {B : Nat} {w w' : World} {b : Nat} {sv : Value} {mb : Nat} {L : List Tm} {v : Value} {T : List Nd} {us : List Value} (h : OTr B w v T us) (hs : St w b sv mb L) (hf : Fr (foot b sv mb) w w') : OTr B w' v T us := by
  refine ⟨h.ul, own_keep h.row (fun k hk => ?_), fun i n u h1 h2 => own_keep (h.un i n u h1 h2) (fun k hk => ?_), h.apart⟩
  · obtain ⟨cur, e⟩ := own_kind h.row hk
    exact hf.block k (lt_of_blk e) (hs.notin e (by decide) (by decide))
  · obtain ⟨cur, e⟩ := own_kind (h.un i n u h1 h2) hk
    exact hf.block k (lt_of_blk e) (hs.notin e (by decide) (by decide))
/-- A tree of one's own beside a store. -/
theorem otr_fix {B : Nat} {w : World} {b : Nat} {sv : Value} {mb : Nat} {L : List Tm} {v : Value} {T : List Nd} {us : List Value} (h : OTr B w v T us) (hs : St w b sv mb L) : Tfix (fun W => Fr (foot b sv mb) w W) v T := by
  rcases Nat.eq_zero_or_pos T.length with h0 | h0
  · obtain ⟨a, c, hv⟩ := own_slice h.row
    exact Or.inl ⟨List.eq_nil_of_length_eq_zero h0, a, c, by rw [hv, h0]⟩
  · obtain ⟨g, cap, hv, hg, hc, _⟩ := own_open h.row h0
    refine Or.inr ⟨g, 0, cap, fun i => us.getD i default, hv, fun W hW i hi => ?_⟩
    have h' := otr_same h hs hW
    have hlt : i < us.length := by rw [h.ul]; exact hi
    have hu : us[i]? = some us[i] := List.getElem?_eq_getElem hlt
    have hn := ndAt_of hi
    have e : v.ownBlock = some g := by rw [hv]; rfl
    have eu : us.getD i default = us[i] := by simp [List.getD, hu]
    simp only [eu]
    refine ⟨⟨?_, ?_, ?_, ?_⟩, (h'.un i _ _ hn hu).nums⟩
    · simpa using own_cell h'.row e (treeC_get hn hu (j := 0) rfl)
    · simpa using own_cell h'.row e (treeC_get hn hu (j := 1) rfl)
    · simpa using own_cell h'.row e (treeC_get hn hu (j := 2) rfl)
    · simpa using own_cell h'.row e (treeC_get hn hu (j := 3) rfl)
/-- A tree that came in, ahead of the store. -/
theorem trd_fix {w0 w : World} {b : Nat} {sv : Value} {mb : Nat} {v : Value} {T : List Nd} (h : Trd w0 v T) (hb : Below w0.heap.size w0 w) (hlow : ∀ x ∈ foot b sv mb, w0.heap.size ≤ x) : Tfix (fun W => Fr (foot b sv mb) w W) v T := by
  rcases h.form with ⟨h1, h2⟩ | ⟨g, o, c, hv, hg, hc⟩
  · exact Or.inl ⟨h1, h2⟩
  · have hex : ∀ i, ∃ u, i < T.length → NdC w0 g (o + i * 4) (ndAt T i) u ∧ Nums w0 u (ndAt T i).un := fun i => by
      by_cases hi : i < T.length
      · obtain ⟨u, q⟩ := hc i _ (ndAt_of hi)
        exact ⟨u, fun _ => q⟩
      · exact ⟨default, fun c => absurd c hi⟩
    refine Or.inr ⟨g, o, c, fun i => Classical.choose (hex i), hv, fun W hW i hi => ?_⟩
    obtain ⟨q1, q2⟩ := Classical.choose_spec (hex i) hi
    have hbW : Below w0.heap.size w0 W := Fr.toBase hb hW hlow
    exact ⟨q1.bw hg hbW, q2.bw hbW⟩

def lv0 : List Tm := [⟨1, 1, 0, 0⟩, ⟨1, 2, 0, 0⟩, ⟨5, 0, 1, 0⟩]
theorem terms3 (w : World) : Tms (w.alloc (.cells #[.int .u8 1, .int .i64 1, .int .i64 0, .int .i64 0, .int .u8 1, .int .i64 2, .int .i64 0, .int .i64 0, .int .u8 5, .int .i64 0, .int .i64 1, .int .i64 0] 54)) (.slice (some ⟨w.heap.size, 0, none⟩) 3 3) lv0 := by
  refine ⟨_, 3, rfl, by simp [lv0], Or.inr ⟨w.heap.size, 0, rfl, fun i t hi => ?_⟩⟩
  unfold TAt World.cell?
  simp only [heap_alloc_new]
  match i, hi with
  | 0, hi | 1, hi | 2, hi => simp [lv0] at hi; subst hi; exact ⟨rfl, rfl, rfl, rfl⟩
  | i + 3, hi => simp [lv0] at hi
def lvT : List Nd := addR [] 5 0 3
theorem lvT_is : lvT = [⟨3, 5, 0, []⟩] := by unfold lvT; kernel_rfl
theorem lives_fill : fillL [] lv0 = lv0 := by decide +kernel
theorem lives_facts10 : cxE lv0 lvT = 0 ∧ nxtE (cxL lv0 4 0 lvT) 1 2 (cxN lv0 4 0 lvT : Nat) = 0 ∧ nxtV (cxL lv0 4 0 lvT) 1 2 (cxN lv0 4 0 lvT : Nat) = [14, 15, 16, 17, 18, 19] ∧ (cxL lv0 4 0 lvT).length = 12 := by
  rw [lvT_is]
  decide +kernel

set_option maxRecDepth 100000 in
set_option maxHeartbeats 4000000 in
theorem lives10 {w0 w : World} (hT : Tab w0) (hb0 : Below w0.heap.size w0 w) : Calls Tryz.prog 19 #[] w fun e w' => e = .returned (.bool true) ∧ Below w0.heap.size w0 w' := by
  obtain ⟨W0, hW0⟩ : ∃ W0, W0 = w.alloc (.cells #[.int .u8 1, .int .i64 1, .int .i64 0, .int .i64 0, .int .u8 1, .int .i64 2, .int .i64 0, .int .i64 0, .int .u8 5, .int .i64 0, .int .i64 1, .int .i64 0] 54) := ⟨_, rfl⟩
  have x0 : Below w.heap.size w W0 := by rw [hW0]; exact bwA' _ _
  have KB := build_any W0 (some ⟨w.heap.size, 0, none⟩) 3 lv0 (by rw [hW0]; exact terms3 w) (by intro t ht; simp [lv0] at ht; rcases ht with rfl | rfl | rfl <;> constructor <;> simp) (by simp [lv0])
  rw [lives_fill] at KB
  have KB2 := hide KB
  have HW := hide hW0
  have HX := hide (And.intro x0 (And.intro hT hb0))
  clear hW0 x0 KB hT hb0
  go_enter Tryz.func19, Tryz.ntmps19
  go_wp2_with fail
  rw [← unhide HW]
  refine (unhide KB2).mono ?_
  rintro e w1 ⟨b, sv, mb, rb, rv, rfl, tw⟩
  have TW := hide tw
  have KN : Hid (Calls Tryz.prog 48 #[.agg #[.int .i64 5, .int .i64 0, .int .i64 3]] w1 fun e w' => ∃ r us, e = .returned (.tuple #[.agg #[r], .int .i64 (addE [] 5 0 3)]) ∧ OTr w1.heap.size w' r lvT us ∧ Below w1.heap.size w1 w') := Go.Proofs.YtcbafeneaoaglaaGreatDoor.rnew_any 5 0 3
  clear tw KB2 HW
  go_wp2_with fail
  refine (unhide KN).mono ?_
  rintro e w2 ⟨r, us, rfl, ho, y⟩
  obtain ⟨ra, rc, hre⟩ := own_slice ho.row
  subst hre
  obtain ⟨w3, hw3⟩ : ∃ w3, w3 = w2.alloc (.cells #[.slice ra lvT.length rc] 25) := ⟨_, rfl⟩
  have y3 : Below w1.heap.size w1 w3 := by rw [hw3]; exact y.alloc y.size _
  have TW3 := hide ((unhide TW).new y3)
  have O3 : OTr w1.heap.size w3 (.slice ra lvT.length rc) lvT us := by rw [hw3]; exact ho.bw (bwA' _ _)
  have kb : w3.heap[w2.heap.size]? = some (.cells #[.slice ra lvT.length rc] 25 (0, 0)) := by rw [hw3]; exact heap_alloc_new _ _
  have hB3 : Below w0.heap.size w0 w3 := bw_tr (bw_tr (unhide HX).2.2 (unhide HX).1) (unhide TW3).bel
  have KC := context_any (unhide TW3).st 4 0 (by omega) (by omega) (.slice ra lvT.length rc) lvT (otr_fix O3 (unhide TW3).st) (O3.trd (by rw [lvT_is]; simp) (by rw [lvT_is]; simp)) ((unhide HX).2.1.bw hB3) (by rw [lvT_is]; intro x hx; simp at hx; subst hx; simp) (by simp [lv0])
  rw [lives_facts10.1] at KC
  obtain ⟨NT, hNT⟩ : ∃ NT, NT = lvT.length := ⟨_, rfl⟩
  rw [← hNT] at KC hw3 kb ⊢
  have HC := hide KC
  have HW3 := hide hw3
  have c3 := blk_cell (i := 0) kb rfl
  obtain ⟨L1, hL1⟩ : ∃ L1, L1 = cxL lv0 4 0 lvT := ⟨_, rfl⟩
  obtain ⟨X, hX⟩ : ∃ X : Nat, X = cxN lv0 4 0 lvT := ⟨_, rfl⟩
  rw [← hX, ← hL1] at HC
  have HF : Hid (nxtE L1 1 2 (X : Nat) = 0 ∧ nxtV L1 1 2 (X : Nat) = [14, 15, 16, 17, 18, 19] ∧ L1.length = 12) := by rw [hL1, hX]; exact lives_facts10.2
  clear ho y hw3 y3 TW O3 hB3 KC hNT kb hL1 hX KN
  go_upto_region 3 with fail
  rw [← unhide HW3]
  go_wp2_with fail
  refine (unhide HC).mono ?_
  rintro e w4 ⟨rfl, sv4, s4⟩
  have TW4 := hide ((unhide TW3).stepS s4)
  have KX := next_any (unhide TW4).st 1 2 (X : Nat) (by have := (unhide HF).2.2; omega)
  rw [(unhide HF).1, (unhide HF).2.1, secA6] at KX
  have HXn := hide KX
  clear KX s4 HC HW3 TW3 c3
  go_wp2_with fail
  refine (unhide HXn).mono ?_
  rintro e w5 ⟨rfl, sv5, s5⟩
  have B5 := hide (bw_tr (bw_tr (unhide HX).2.2 (unhide HX).1) ((unhide TW4).stepS s5).bel)
  clear s5 HXn TW4
  go_wp2
  go_ret
  exact ⟨rfl, (unhide B5).alloc (unhide B5).size _⟩
end Go.Proofs.YtcbafeneaoaglaaGreatDoor.Tn
