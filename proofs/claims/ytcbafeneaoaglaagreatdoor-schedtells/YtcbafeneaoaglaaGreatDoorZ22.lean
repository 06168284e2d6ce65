/- Texts joined: ScJ ScR ScS ScT ScU. -/
import Derived.Test.YtcbafeneaoaglaaGreatDoorScI
import Derived.Test.YtcbafeneaoaglaaGreatDoorTeG
import Derived.Test.YtcbafeneaoaglaaGreatDoorZ18
import Derived.Test.YtcbafeneaoaglaaGreatDoorZ20
import Derived.Test.YtcbafeneaoaglaaGreatDoorZ07
/- What all statements of layer 10 end with: the secrets of an epoch. -/
namespace Go.Proofs.YtcbafeneaoaglaaGreatDoor.Tn
open Go.RowKit Go.Maps

theorem otr_same {B : Nat} {w w' : World} {b : Nat} {sv : Value} {mb : Nat} {L : List Tm} {v : Value} {T : List Nd} {us : List Value} (h : OTr B w v T us) (hs : St w b sv mb L) (hf : Fr (foot b sv mb) w w') : OTr B w' v T us := by
  refine ⟨h.ul, own_keep h.row (fun k hk => ?_), fun i n u h1 h2 => own_keep (h.un i n u h1 h2) (fun k hk => ?_), h.apart⟩
  · obtain ⟨cur, e⟩ := own_kind h.row hk
    exact hf.block k (lt_of_blk e) (hs.notin e (by decide) (by decide))
  · obtain ⟨cur, e⟩ := own_kind (h.un i n u h1 h2) hk
    exact hf.block k (lt_of_blk e) (hs.notin e (by decide) (by decide))
/-- A tree of one's own beside a store. -/
theorem otr_fix {B : Nat} {w : World} {b : Nat} {sv : Value} {mb : Nat} {L : List Tm} {v : Value} {T : List Nd} {us : List Value} (h : OTr B w v T us) (hs : St w b sv mb L) : Tfix (fun W => Fr (foot b sv mb) w W) v T := by
  rcases Nat.eq_zero_or_pos T.length with h0 | h0
  · obtain ⟨a, c, hv⟩ := own_slice h.row
    exact Or.inl ⟨List.eq_nil_of_length_eq_zero h0, a, c, by rw [hv, h0]⟩
  · obtain ⟨g, cap, hv, hg, hc, _⟩ := own_open h.row h0
    refine Or.inr ⟨g, 0, cap, fun i => us.getD i default, hv, fun W hW i hi => ?_⟩
    have h' := otr_same h hs hW
    have hlt : i < us.length := by rw [h.ul]; exact hi
    have hu : us[i]? = some us[i] := List.getElem?_eq_getElem hlt
    have hn := ndAt_of hi
    have e : v.ownBlock = some g := by rw [hv]; rfl
    have eu : us.getD i default = us[i] := by simp [List.getD, hu]
    simp only [eu]
    refine ⟨⟨?_, ?_, ?_, ?_⟩, (h'.un i _ _ hn hu).nums⟩
    · simpa using own_cell h'.row e (treeC_get hn hu (j := 0) rfl)
    · simpa using own_cell h'.row e (treeC_get hn hu (j := 1) rfl)
    · simpa using own_cell h'.row e (treeC_get hn hu (j := 2) rfl)
    · simpa using own_cell h'.row e (treeC_get hn hu (j := 3) rfl)
/-- A tree that came in, ahead of the store. -/
theorem trd_fix {w0 w : World} {b : Nat} {sv : Value} {mb : Nat} {v : Value} {T : List Nd} (h : Trd w0 v T) (hb : Below w0.heap.size w0 w) (hlow : ∀ x ∈ foot b sv mb, w0.heap.size ≤ x) : Tfix (fun W => Fr (foot b sv mb) w W) v T := by
  rcases h.form with ⟨h1, h2⟩ | ⟨g, o, c, hv, hg, hc⟩
  · exact Or.inl ⟨h1, h2⟩
  · have hex : ∀ i, ∃ u, i < T.length → NdC w0 g (o + i * 4) (ndAt T i) u ∧ Nums w0 u (ndAt T i).un := fun i => by
      by_cases hi : i < T.length
      · obtain ⟨u, q⟩ := hc i _ (ndAt_of hi)
        exact ⟨u, fun _ => q⟩
      · exact ⟨default, fun c => absurd c hi⟩
    refine Or.inr ⟨g, o, c, fun i => Classical.choose (hex i), hv, fun W hW i hi => ?_⟩
    obtain ⟨q1, q2⟩ := Classical.choose_spec (hex i) hi
    have hbW : Below w0.heap.size w0 W := Fr.toBase hb hW hlow
    exact ⟨q1.bw hg hbW, q2.bw hbW⟩

def lv0 : List Tm := [⟨1, 1, 0, 0⟩, ⟨1, 2, 0, 0⟩, ⟨5, 0, 1, 0⟩]
theorem terms3 (w : World) : Tms (w.alloc (.cells #[.int .u8 1, .int .i64 1, .int .i64 0, .int .i64 0, .int .u8 1, .int .i64 2, .int .i64 0, .int .i64 0, .int .u8 5, .int .i64 0, .int .i64 1, .int .i64 0] 54)) (.slice (some ⟨w.heap.size, 0, none⟩) 3 3) lv0 := by
  refine ⟨_, 3, rfl, by simp [lv0], Or.inr ⟨w.heap.size, 0, rfl, fun i t hi => ?_⟩⟩
  unfold TAt World.cell?
  simp only [heap_alloc_new]
  match i, hi with
  | 0, hi | 1, hi | 2, hi => simp [lv0] at hi; subst hi; exact ⟨rfl, rfl, rfl, rfl⟩
  | i + 3, hi => simp [lv0] at hi
def lvT : List Nd := addR [] 5 0 3
theorem lvT_is : lvT = [⟨3, 5, 0, []⟩] := by unfold lvT; kernel_rfl
theorem lives_fill : fillL [] lv0 = lv0 := by decide +kernel
theorem lives_facts10 : cxE lv0 lvT = 0 ∧ nxtE (cxL lv0 4 0 lvT) 1 2 (cxN lv0 4 0 lvT : Nat) = 0 ∧ nxtV (cxL lv0 4 0 lvT) 1 2 (cxN lv0 4 0 lvT : Nat) = [14, 15, 16, 17, 18, 19] ∧ (cxL lv0 4 0 lvT).length = 12 := by
  rw [lvT_is]
  decide +kernel

set_option maxRecDepth 100000 in
set_option maxHeartbeats 4000000 in
theorem lives10 {w0 w : World} (hT : Tab w0) (hb0 : Below w0.heap.size w0 w) : Calls Tryz.prog 19 #[] w fun e w' => e = .returned (.bool true) ∧ Below w0.heap.size w0 w' := by
  obtain ⟨W0, hW0⟩ : ∃ W0, W0 = w.alloc (.cells #[.int .u8 1, .int .i64 1, .int .i64 0, .int .i64 0, .int .u8 1, .int .i64 2, .int .i64 0, .int .i64 0, .int .u8 5, .int .i64 0, .int .i64 1, .int .i64 0] 54) := ⟨_, rfl⟩
  have x0 : Below w.heap.size w W0 := by rw [hW0]; exact bwA' _ _
  have KB := build_any W0 (some ⟨w.heap.size, 0, none⟩) 3 lv0 (by rw [hW0]; exact terms3 w) (by intro t ht; simp [lv0] at ht; rcases ht with rfl | rfl | rfl <;> constructor <;> simp) (by simp [lv0])
  rw [lives_fill] at KB
  have KB2 := hide KB
  have HW := hide hW0
  have HX := hide (And.intro x0 (And.intro hT hb0))
  clear hW0 x0 KB hT hb0
  go_enter Tryz.func19, Tryz.ntmps19
  go_wp2_with fail
  rw [← unhide HW]
  refine (unhide KB2).mono ?_
  rintro e w1 ⟨b, sv, mb, rb, rv, rfl, tw⟩
  have TW := hide tw
  have KN : Hid (Calls Tryz.prog 48 #[.agg #[.int .i64 5, .int .i64 0, .int .i64 3]] w1 fun e w' => ∃ r us, e = .returned (.tuple #[.agg #[r], .int .i64 (addE [] 5 0 3)]) ∧ OTr w1.heap.size w' r lvT us ∧ Below w1.heap.size w1 w') := Go.Proofs.YtcbafeneaoaglaaGreatDoor.rnew_any 5 0 3
  clear tw KB2 HW
  go_wp2_with fail
  refine (unhide KN).mono ?_
  rintro e w2 ⟨r, us, rfl, ho, y⟩
  obtain ⟨ra, rc, hre⟩ := own_slice ho.row
  subst hre
  obtain ⟨w3, hw3⟩ : ∃ w3, w3 = w2.alloc (.cells #[.slice ra lvT.length rc] 25) := ⟨_, rfl⟩
  have y3 : Below w1.heap.size w1 w3 := by rw [hw3]; exact y.alloc y.size _
  have TW3 := hide ((unhide TW).new y3)
  have O3 : OTr w1.heap.size w3 (.slice ra lvT.length rc) lvT us := by rw [hw3]; exact ho.bw (bwA' _ _)
  have kb : w3.heap[w2.heap.size]? = some (.cells #[.slice ra lvT.length rc] 25 (0, 0)) := by rw [hw3]; exact heap_alloc_new _ _
  have hB3 : Below w0.heap.size w0 w3 := bw_tr (bw_tr (unhide HX).2.2 (unhide HX).1) (unhide TW3).bel
  have KC := context_any (unhide TW3).st 4 0 (by omega) (by omega) (.slice ra lvT.length rc) lvT (otr_fix O3 (unhide TW3).st) (O3.trd (by rw [lvT_is]; simp) (by rw [lvT_is]; simp)) ((unhide HX).2.1.bw hB3) (by rw [lvT_is]; intro x hx; simp at hx; subst hx; simp) (by simp [lv0])
  rw [lives_facts10.1] at KC
  obtain ⟨NT, hNT⟩ : ∃ NT, NT = lvT.length := ⟨_, rfl⟩
  rw [← hNT] at KC hw3 kb ⊢
  have HC := hide KC
  have HW3 := hide hw3
  have c3 := blk_cell (i := 0) kb rfl
  obtain ⟨L1, hL1⟩ : ∃ L1, L1 = cxL lv0 4 0 lvT := ⟨_, rfl⟩
  obtain ⟨X, hX⟩ : ∃ X : Nat, X = cxN lv0 4 0 lvT := ⟨_, rfl⟩
  rw [← hX, ← hL1] at HC
  have HF : Hid (nxtE L1 1 2 (X : Nat) = 0 ∧ nxtV L1 1 2 (X : Nat) = [14, 15, 16, 17, 18, 19] ∧ L1.length = 12) := by rw [hL1, hX]; exact lives_facts10.2
  clear ho y hw3 y3 TW O3 hB3 KC hNT kb hL1 hX KN
  go_upto_region 3 with fail
  rw [← unhide HW3]
  go_wp2_with fail
  refine (unhide HC).mono ?_
  rintro e w4 ⟨rfl, sv4, s4⟩
  have TW4 := hide ((unhide TW3).stepS s4)
  have KX := next_any (unhide TW4).st 1 2 (X : Nat) (by have := (unhide HF).2.2; omega)
  rw [(unhide HF).1, (unhide HF).2.1, secA6] at KX
  have HXn := hide KX
  clear KX s4 HC HW3 TW3 c3
  go_wp2_with fail
  refine (unhide HXn).mono ?_
  rintro e w5 ⟨rfl, sv5, s5⟩
  have B5 := hide (bw_tr (bw_tr (unhide HX).2.2 (unhide HX).1) ((unhide TW4).stepS s5).bel)
  clear s5 HXn TW4
  go_wp2
  go_ret
  exact ⟨rfl, (unhide B5).alloc (unhide B5).size _⟩
end Go.Proofs.YtcbafeneaoaglaaGreatDoor.Tn

/- The document's secrets of an epoch, over its own store. -/
namespace Go.Proofs.YtcbafeneaoaglaaGreatDoor.Tn
open Go.RowKit Go.Maps

theorem RStep.after {w w0 w1 : World} {b : Nat} {sv sv1 : Value} {L1 : List Tm} (k : RStep w w0 b sv sv1 L1) (h : Below w0.heap.size w0 w1) : RStep w w1 b sv sv1 L1 := k.trans (RStep.same k.st h)
theorem Rs.notin {w : World} {b : Nat} {sv : Value} {L : List Tm} {k : Nat} {cs : Array Value} {t : TypeId} (h : Rs w b sv L) (hk : w.heap[k]? = some (.cells cs t (0, 0))) (h1 : t ≠ 107) (h2 : t ≠ 54) : k ∉ rfoot b sv := by
  intro c
  rcases mem_rfoot.1 c with rfl | c
  · rw [h.blk] at hk; injection hk with hk; injection hk with _ hk; exact h1 hk.symm
  · obtain ⟨cur, e⟩ := h.row.block c; rw [e] at hk; injection hk with hk; injection hk with _ hk; exact h2 hk.symm
theorem kept_rfr {w w' : World} {b : Nat} {sv : Value} {L : List Tm} {k : Nat} {cs : Array Value} {t : TypeId} (h : w.heap[k]? = some (.cells cs t (0, 0))) (hs : Rs w b sv L) (hf : Fr (rfoot b sv) w w') (h1 : t ≠ 107) (h2 : t ≠ 54) : w'.heap[k]? = some (.cells cs t (0, 0)) := by rw [hf.block k (lt_of_blk h) (hs.notin h h1 h2)]; exact h
theorem RStep.poke {w W : World} {b : Nat} {sv sv' : Value} {L : List Tm} {k i : Nat} {cs : Array Value} {t : TypeId} (h : RStep w W b sv sv' L) (hk : W.heap[k]? = some (.cells cs t (0, 0))) (h1 : t ≠ 107) (h2 : t ≠ 54) (hw : w.heap.size ≤ k) (v : Value) : RStep w (W.setCell ⟨k, i, none⟩ v) b sv sv' L :=
  ⟨h.st.keep (S := [k]) ((Fr.refl _ _).setCell (a := ⟨k, i, none⟩) (Or.inr (by simp)) v) (fun x hx c => by simp at c; subst c; exact h.st.notin hk h1 h2 hx), h.fr.setCell (a := ⟨k, i, none⟩) (Or.inl hw) v, h.place⟩
theorem RStep.six {w W : World} {b : Nat} {sv sv' : Value} {L : List Tm} {k : Nat} {a0 a1 a2 a3 a4 a5 : Value} {t : TypeId} (h : RStep w W b sv sv' L) (hk : W.heap[k]? = some (.cells #[a0, a1, a2, a3, a4, a5] t (0, 0))) (h1 : t ≠ 107) (h2 : t ≠ 54) (hw : w.heap.size ≤ k) (v0 v1 v2 v3 v4 v5 : Value) :
    RStep w ((((((W.setCell ⟨k, 0, none⟩ v0).setCell ⟨k, 1, none⟩ v1).setCell ⟨k, 2, none⟩ v2).setCell ⟨k, 3, none⟩ v3).setCell ⟨k, 4, none⟩ v4).setCell ⟨k, 5, none⟩ v5) b sv sv' L ∧ ((((((W.setCell ⟨k, 0, none⟩ v0).setCell ⟨k, 1, none⟩ v1).setCell ⟨k, 2, none⟩ v2).setCell ⟨k, 3, none⟩ v3).setCell ⟨k, 4, none⟩ v4).setCell ⟨k, 5, none⟩ v5).heap[k]? = some (.cells #[v0, v1, v2, v3, v4, v5] t (0, 0)) := by
  have e0 := poke_blk (i := 0) hk v0
  have e1 := poke_blk (i := 1) e0 v1
  have e2 := poke_blk (i := 2) e1 v2
  have e3 := poke_blk (i := 3) e2 v3
  have e4 := poke_blk (i := 4) e3 v4
  have e5 := poke_blk (i := 5) e4 v5
  exact ⟨(((((h.poke hk h1 h2 hw v0).poke e0 h1 h2 hw v1).poke e1 h1 h2 hw v2).poke e2 h1 h2 hw v3).poke e3 h1 h2 hw v4).poke e4 h1 h2 hw v5, e5⟩
theorem rmake_ok {b : Nat} {sv : Value} {L : List Tm} {w : World} (h : Rs w b sv L) (k n x y : Int) (ht : Tm.ok ⟨k, n, x, y⟩) (hm : may L.length ⟨k, n, x, y⟩ = true) (hl : L.length < 1048576) :
    Calls Tryz.prog 25 #[.pointer (some ⟨b, 0, none⟩), .agg #[.int .u8 k, .int .i64 n, .int .i64 x, .int .i64 y]] w fun e w' => e = .returned (.tuple #[.int .i64 (mkN L ⟨k, n, x, y⟩ : Nat), .int .i64 0]) ∧ ∃ sv', RStep w w' b sv sv' (mkL L ⟨k, n, x, y⟩) := by
  refine (rmake_any b sv L ⟨k, n, x, y⟩ w h ht).mono ?_
  rintro e w' ⟨rfl, s⟩
  rw [(mk_ok hm hl).1]
  exact ⟨rfl, s⟩
set_option maxRecDepth 100000 in
theorem rone_any {b : Nat} {sv : Value} {L : List Tm} {w : World} (h : Rs w b sv L) (z : Int) (hz : -9223372036854775808 ≤ z ∧ z ≤ 9223372036854775807) (hl : L.length < 1048576) :
    Calls Tryz.prog 35 #[.pointer (some ⟨b, 0, none⟩), .int .i64 z] w fun e w' => e = .returned (.int .i64 (mkN L ⟨2, z, 0, 0⟩ : Nat)) ∧ ∃ sv', RStep w w' b sv sv' (mkL L ⟨2, z, 0, 0⟩) := by
  have K := hide (rmake_ok h 2 z 0 0 ⟨by simp, by simp, hz.1, hz.2, by simp, by simp, by simp, by simp⟩ (may_dat _ _) hl)
  obtain ⟨n, hn⟩ : ∃ n : Nat, n = mkN L ⟨2, z, 0, 0⟩ := ⟨_, rfl⟩
  rw [← hn] at K ⊢
  clear h hl hn hz
  go_enter Tryz.func35, Tryz.ntmps35
  go_wp2_with fail
  refine (unhide K).mono ?_
  rintro e w1 ⟨rfl, s⟩
  have S := hide s
  clear s K
  go_wp2
  go_ret
  exact ⟨rfl, unhide S⟩
set_option maxRecDepth 100000 in
theorem rkdf_any {b : Nat} {sv : Value} {L : List Tm} {w : World} (h : Rs w b sv L) (l s c : Int) (ho : Tm.ok ⟨4, l, s, c⟩) (hm : may L.length ⟨4, l, s, c⟩ = true) (hl : L.length < 1048576) :
    Calls Tryz.prog 43 #[.pointer (some ⟨b, 0, none⟩), .int .i64 l, .int .i64 s, .int .i64 c] w fun e w' => e = .returned (.int .i64 (mkN L ⟨4, l, s, c⟩ : Nat)) ∧ ∃ sv', RStep w w' b sv sv' (mkL L ⟨4, l, s, c⟩) := by
  have K := hide (rmake_ok h 4 l s c ho hm hl)
  obtain ⟨n, hn⟩ : ∃ n : Nat, n = mkN L ⟨4, l, s, c⟩ := ⟨_, rfl⟩
  rw [← hn] at K ⊢
  clear h hl hn ho hm
  go_enter Tryz.func43, Tryz.ntmps43
  go_wp2_with fail
  refine (unhide K).mono ?_
  rintro e w1 ⟨rfl, s⟩
  have S := hide s
  clear s K
  go_wp2
  go_ret
  exact ⟨rfl, unhide S⟩
set_option maxRecDepth 100000 in
theorem q9is_any {b : Nat} {sv : Value} {L : List Tm} {w : World} (h : Rs w b sv L) (x : Int) :
    Calls Tryz.prog 69 #[.pointer (some ⟨b, 0, none⟩), .int .i64 x] w fun e w' => e = .returned (.bool (thr L.length x)) ∧ Below w.heap.size w w' := by
  have K := hide (rget_any b sv L x w h)
  clear h
  generalize thr L.length x = r at *
  generalize getT L x = t at *
  go_enter Tryz.func69, Tryz.ntmps69
  go_wp2_with fail
  refine (unhide K).mono ?_
  rintro e w1 ⟨rfl, y⟩
  clear K
  go_wp2
  go_ret
  exact ⟨rfl, y.alloc y.size _⟩
end Go.Proofs.YtcbafeneaoaglaaGreatDoor.Tn

/- The document's From and Next. -/
namespace Go.Proofs.YtcbafeneaoaglaaGreatDoor.Tn
open Go.RowKit Go.Maps

set_option maxRecDepth 100000 in
set_option maxHeartbeats 4000000 in
theorem rfrom_any {b : Nat} {sv : Value} {L : List Tm} {w : World} (h : Rs w b sv L) (j x : Int) (hl : L.length + 20 ≤ 1048576) :
    Calls Tryz.prog 14 #[.pointer (some ⟨b, 0, none⟩), .int .i64 j, .int .i64 x] w fun e w' => e = .returned (.tuple #[secA (frV L j x), .int .i64 (frE L j x)]) ∧ ∃ sv', RStep w w' b sv sv' (frL L j x) := by
  obtain ⟨w0, hw0⟩ : ∃ w0, w0 = w.alloc (.cells #[.int .i64 0, .int .i64 0, .int .i64 0, .int .i64 0, .int .i64 0, .int .i64 0] 38) := ⟨_, rfl⟩
  have x0 : Below w.heap.size w w0 := by rw [hw0]; exact bwA' _ _
  have k0 : w0.heap[w.heap.size]? = some (.cells #[.int .i64 0, .int .i64 0, .int .i64 0, .int .i64 0, .int .i64 0, .int .i64 0] 38 (0, 0)) := by rw [hw0]; exact heap_alloc_new _ _
  have HW := hide hw0
  have S0 : Hid (RStep w w0 b sv sv L) := RStep.same h x0
  have KG : Hid (∀ W, Below w0.heap.size w0 W → ∀ z, Calls Tryz.prog 42 #[.pointer (some ⟨b, 0, none⟩), .int .i64 z] W fun e w' => ∃ t : Tm, e = .returned (.tuple #[.agg #[.int .u8 t.kd, .int .i64 t.n, .int .i64 t.a, .int .i64 t.b], .bool (thr L.length z)]) ∧ Below W.heap.size W w') := fun W hW z => (rget_any b sv L z W ((unhide S0).st.bw hW)).mono (fun e w' hh => ⟨_, hh.1, hh.2⟩)
  have YY : Hid (∀ W, Below w0.heap.size w0 W → W.heap[w.heap.size]? = some (.cells #[.int .i64 0, .int .i64 0, .int .i64 0, .int .i64 0, .int .i64 0, .int .i64 0] 38 (0, 0)) ∧ RStep w W b sv sv L) := fun W hW => ⟨kept_blk k0 hW, (unhide S0).after hW⟩
  clear hw0 k0
  cases tj : thr L.length j
  · have e1 : fr2 L j x = false := by unfold fr2; simp [tj]
    unfold frL frV frE
    rw [e1]
    simp only [Bool.false_eq_true, if_false, zero6]
    clear e1 h hl x0 S0
    cases tx : thr L.length x
    · go_enter Tryz.func14, Tryz.ntmps14
      go_upto_region 1 with fail
      rw [← unhide HW]
      clear HW
      have B0 : Below w0.heap.size w0 w0 := Below.refl _ _
      have KQ := hide (unhide KG _ B0 j)
      rw [tj] at KQ
      go_wp2_with fail
      refine (unhide KQ).mono ?_
      rintro e z1 ⟨tm0, rfl, y⟩
      have B1' := bw_tr B0 y
      have B1 := B1'.alloc B1'.size (.cells #[.int .u8 tm0.kd, .int .i64 tm0.n, .int .i64 tm0.a, .int .i64 tm0.b] 54)
      clear KQ y B0 B1'
      go_upto_region 2 with fail
      generalize z1.alloc (.cells #[.int .u8 tm0.kd, .int .i64 tm0.n, .int .i64 tm0.a, .int .i64 tm0.b] 54) = Z1 at *
      have KQ := hide (unhide KG _ B1 x)
      rw [tx] at KQ
      go_wp2_with fail
      refine (unhide KQ).mono ?_
      rintro e z2 ⟨tm1, rfl, y⟩
      have B2' := bw_tr B1 y
      have B2 := B2'.alloc B2'.size (.cells #[.int .u8 tm1.kd, .int .i64 tm1.n, .int .i64 tm1.a, .int .i64 tm1.b] 54)
      clear KQ y B1 B2'
      go_upto_region 3 with fail
      generalize z2.alloc (.cells #[.int .u8 tm1.kd, .int .i64 tm1.n, .int .i64 tm1.a, .int .i64 tm1.b] 54) = Z2 at *
      obtain ⟨k9, s9⟩ := unhide YY _ B2
      have S9 := hide s9
      clear s9 YY KG B2
      have h0 := blk_cell (i := 0) k9 rfl
      have h1 := blk_cell (i := 1) k9 rfl
      have h2 := blk_cell (i := 2) k9 rfl
      have h3 := blk_cell (i := 3) k9 rfl
      have h4 := blk_cell (i := 4) k9 rfl
      have h5 := blk_cell (i := 5) k9 rfl
      have hf := fun i => blk_froz (i := i) k9
      go_wp2_with fail
      obtain ⟨SV, bV⟩ := (unhide S9).six k9 (by decide) (by decide) (by omega) (.int .i64 0) (.int .i64 0) (.int .i64 0) (.int .i64 0) (.int .i64 0) (.int .i64 0)
      generalize ((((((Z2.setCell ⟨w.heap.size, 0, none⟩ (.int .i64 0)).setCell ⟨w.heap.size, 1, none⟩ (.int .i64 0)).setCell ⟨w.heap.size, 2, none⟩ (.int .i64 0)).setCell ⟨w.heap.size, 3, none⟩ (.int .i64 0)).setCell ⟨w.heap.size, 4, none⟩ (.int .i64 0)).setCell ⟨w.heap.size, 5, none⟩ (.int .i64 0)) = V at SV bV ⊢
      have g0 := blk_cell (i := 0) bV rfl
      have g1 := blk_cell (i := 1) bV rfl
      have g2 := blk_cell (i := 2) bV rfl
      have g3 := blk_cell (i := 3) bV rfl
      have g4 := blk_cell (i := 4) bV rfl
      have g5 := blk_cell (i := 5) bV rfl
      have HSV := hide SV
      clear SV bV k9 h0 h1 h2 h3 h4 h5 hf S9
      exact bodyPost_ret (v := .tuple #[.agg #[.int .i64 0, .int .i64 0, .int .i64 0, .int .i64 0, .int .i64 0, .int .i64 0], .int .i64 1]) (by simp [results, Tryz.results14, go_sem, g0, g1, g2, g3, g4, g5]) rfl ⟨rfl, sv, unhide HSV⟩
    · go_enter Tryz.func14, Tryz.ntmps14
      go_upto_region 1 with fail
      rw [← unhide HW]
      clear HW
      have B0 : Below w0.heap.size w0 w0 := Below.refl _ _
      have KQ := hide (unhide KG _ B0 j)
      rw [tj] at KQ
      go_wp2_with fail
      refine (unhide KQ).mono ?_
      rintro e z1 ⟨tm0, rfl, y⟩
      have B1' := bw_tr B0 y
      have B1 := B1'.alloc B1'.size (.cells #[.int .u8 tm0.kd, .int .i64 tm0.n, .int .i64 tm0.a, .int .i64 tm0.b] 54)
      clear KQ y B0 B1'
      go_upto_region 2 with fail
      generalize z1.alloc (.cells #[.int .u8 tm0.kd, .int .i64 tm0.n, .int .i64 tm0.a, .int .i64 tm0.b] 54) = Z1 at *
      have KQ := hide (unhide KG _ B1 x)
      rw [tx] at KQ
      go_wp2_with fail
      refine (unhide KQ).mono ?_
      rintro e z2 ⟨tm1, rfl, y⟩
      have B2' := bw_tr B1 y
      have B2 := B2'.alloc B2'.size (.cells #[.int .u8 tm1.kd, .int .i64 tm1.n, .int .i64 tm1.a, .int .i64 tm1.b] 54)
      clear KQ y B1 B2'
      go_upto_region 3 with fail
      generalize z2.alloc (.cells #[.int .u8 tm1.kd, .int .i64 tm1.n, .int .i64 tm1.a, .int .i64 tm1.b] 54) = Z2 at *
      obtain ⟨k9, s9⟩ := unhide YY _ B2
      have S9 := hide s9
      clear s9 YY KG B2
      have h0 := blk_cell (i := 0) k9 rfl
      have h1 := blk_cell (i := 1) k9 rfl
      have h2 := blk_cell (i := 2) k9 rfl
      have h3 := blk_cell (i := 3) k9 rfl
      have h4 := blk_cell (i := 4) k9 rfl
      have h5 := blk_cell (i := 5) k9 rfl
      have hf := fun i => blk_froz (i := i) k9
      go_wp2_with fail
      obtain ⟨SV, bV⟩ := (unhide S9).six k9 (by decide) (by decide) (by omega) (.int .i64 0) (.int .i64 0) (.int .i64 0) (.int .i64 0) (.int .i64 0) (.int .i64 0)
      generalize ((((((Z2.setCell ⟨w.heap.size, 0, none⟩ (.int .i64 0)).setCell ⟨w.heap.size, 1, none⟩ (.int .i64 0)).setCell ⟨w.heap.size, 2, none⟩ (.int .i64 0)).setCell ⟨w.heap.size, 3, none⟩ (.int .i64 0)).setCell ⟨w.heap.size, 4, none⟩ (.int .i64 0)).setCell ⟨w.heap.size, 5, none⟩ (.int .i64 0)) = V at SV bV ⊢
      have g0 := blk_cell (i := 0) bV rfl
      have g1 := blk_cell (i := 1) bV rfl
      have g2 := blk_cell (i := 2) bV rfl
      have g3 := blk_cell (i := 3) bV rfl
      have g4 := blk_cell (i := 4) bV rfl
      have g5 := blk_cell (i := 5) bV rfl
      have HSV := hide SV
      clear SV bV k9 h0 h1 h2 h3 h4 h5 hf S9
      exact bodyPost_ret (v := .tuple #[.agg #[.int .i64 0, .int .i64 0, .int .i64 0, .int .i64 0, .int .i64 0, .int .i64 0], .int .i64 1]) (by simp [results, Tryz.results14, go_sem, g0, g1, g2, g3, g4, g5]) rfl ⟨rfl, sv, unhide HSV⟩
  cases tx : thr L.length x
  · have e1 : fr2 L j x = false := by unfold fr2; simp [tx]
    unfold frL frV frE
    rw [e1]
    simp only [Bool.false_eq_true, if_false, zero6]
    clear e1 h hl x0 S0
    go_enter Tryz.func14, Tryz.ntmps14
    go_upto_region 1 with fail
    rw [← unhide HW]
    clear HW
    have B0 : Below w0.heap.size w0 w0 := Below.refl _ _
    have KQ := hide (unhide KG _ B0 j)
    rw [tj] at KQ
    go_wp2_with fail
    refine (unhide KQ).mono ?_
    rintro e z1 ⟨tm0, rfl, y⟩
    have B1' := bw_tr B0 y
    have B1 := B1'.alloc B1'.size (.cells #[.int .u8 tm0.kd, .int .i64 tm0.n, .int .i64 tm0.a, .int .i64 tm0.b] 54)
    clear KQ y B0 B1'
    go_upto_region 2 with fail
    generalize z1.alloc (.cells #[.int .u8 tm0.kd, .int .i64 tm0.n, .int .i64 tm0.a, .int .i64 tm0.b] 54) = Z1 at *
    have KQ := hide (unhide KG _ B1 x)
    rw [tx] at KQ
    go_wp2_with fail
    refine (unhide KQ).mono ?_
    rintro e z2 ⟨tm1, rfl, y⟩
    have B2' := bw_tr B1 y
    have B2 := B2'.alloc B2'.size (.cells #[.int .u8 tm1.kd, .int .i64 tm1.n, .int .i64 tm1.a, .int .i64 tm1.b] 54)
    clear KQ y B1 B2'
    go_upto_region 3 with fail
    generalize z2.alloc (.cells #[.int .u8 tm1.kd, .int .i64 tm1.n, .int .i64 tm1.a, .int .i64 tm1.b] 54) = Z2 at *
    obtain ⟨k9, s9⟩ := unhide YY _ B2
    have S9 := hide s9
    clear s9 YY KG B2
    have h0 := blk_cell (i := 0) k9 rfl
    have h1 := blk_cell (i := 1) k9 rfl
    have h2 := blk_cell (i := 2) k9 rfl
    have h3 := blk_cell (i := 3) k9 rfl
    have h4 := blk_cell (i := 4) k9 rfl
    have h5 := blk_cell (i := 5) k9 rfl
    have hf := fun i => blk_froz (i := i) k9
    go_wp2_with fail
    obtain ⟨SV, bV⟩ := (unhide S9).six k9 (by decide) (by decide) (by omega) (.int .i64 0) (.int .i64 0) (.int .i64 0) (.int .i64 0) (.int .i64 0) (.int .i64 0)
    generalize ((((((Z2.setCell ⟨w.heap.size, 0, none⟩ (.int .i64 0)).setCell ⟨w.heap.size, 1, none⟩ (.int .i64 0)).setCell ⟨w.heap.size, 2, none⟩ (.int .i64 0)).setCell ⟨w.heap.size, 3, none⟩ (.int .i64 0)).setCell ⟨w.heap.size, 4, none⟩ (.int .i64 0)).setCell ⟨w.heap.size, 5, none⟩ (.int .i64 0)) = V at SV bV ⊢
    have g0 := blk_cell (i := 0) bV rfl
    have g1 := blk_cell (i := 1) bV rfl
    have g2 := blk_cell (i := 2) bV rfl
    have g3 := blk_cell (i := 3) bV rfl
    have g4 := blk_cell (i := 4) bV rfl
    have g5 := blk_cell (i := 5) bV rfl
    have HSV := hide SV
    clear SV bV k9 h0 h1 h2 h3 h4 h5 hf S9
    exact bodyPost_ret (v := .tuple #[.agg #[.int .i64 0, .int .i64 0, .int .i64 0, .int .i64 0, .int .i64 0, .int .i64 0], .int .i64 1]) (by simp [results, Tryz.results14, go_sem, g0, g1, g2, g3, g4, g5]) rfl ⟨rfl, sv, unhide HSV⟩
  have e1 : fr2 L j x = true := by unfold fr2; simp [tj, tx]
  unfold frL frV frE
  rw [e1]
  simp only [if_true]
  clear e1
  have hjr := thr_rng tj (by omega)
  have hxr := thr_rng tx (by omega)
  have m0 := may_kdf (l := 4) (by omega) tj (Or.inr tx)
  have o0 : Tm.ok ⟨4, 4, j, x⟩ := ok_kdf (by omega)
  have HM : Hid (∀ W sv' L' l s c, RStep w W b sv sv' L' → Tm.ok ⟨4, l, s, c⟩ → may L'.length ⟨4, l, s, c⟩ = true → L'.length < 1048576 → Calls Tryz.prog 43 #[.pointer (some ⟨b, 0, none⟩), .int .i64 l, .int .i64 s, .int .i64 c] W fun e w' => e = .returned (.int .i64 (mkN L' ⟨4, l, s, c⟩ : Nat)) ∧ ∃ sv2, RStep w w' b sv sv2 (mkL L' ⟨4, l, s, c⟩) ∧ Fr (rfoot b sv') W w') := fun W sv' L' l s c hs ho hm hl => by
    refine (rkdf_any hs.st l s c ho hm hl).mono ?_
    rintro e w' ⟨h1, sv2, h2⟩
    exact ⟨h1, sv2, hs.trans h2, h2.fr⟩
  obtain ⟨E, hE⟩ : ∃ E : Nat, E = mkN L ⟨4, 4, j, x⟩ := ⟨_, rfl⟩
  obtain ⟨L1, hL1⟩ : ∃ L1, L1 = mkL L ⟨4, 4, j, x⟩ := ⟨_, rfl⟩
  have hEt : thr L1.length (E : Nat) = true ∧ (E : Int) ≤ 1048577 := by rw [hE, hL1]; exact mkN_thr m0 (by omega)
  have hl1 : L1.length + 12 ≤ 1048576 := by have := mkL_len L ⟨4, 4, j, x⟩; rw [hL1]; omega
  have HT0 : Hid (thr L1.length (E : Int) = true) := hEt.1
  have HO0 : Hid (Tm.ok ⟨4, 5, (E : Int), 0⟩) := ok_kdf (by have := hEt.2; omega)
  have HO1 : Hid (Tm.ok ⟨4, 6, (E : Int), 0⟩) := ok_kdf (by have := hEt.2; omega)
  have HO2 : Hid (Tm.ok ⟨4, 7, (E : Int), 0⟩) := ok_kdf (by have := hEt.2; omega)
  have HO3 : Hid (Tm.ok ⟨4, 8, (E : Int), 0⟩) := ok_kdf (by have := hEt.2; omega)
  have HL1 := hide hl1
  have HE := hide (And.intro hE hL1)
  have HK0 : Hid (∀ W, Below w0.heap.size w0 W → Calls Tryz.prog 43 #[.pointer (some ⟨b, 0, none⟩), .int .i64 4, .int .i64 j, .int .i64 x] W fun e w' => e = .returned (.int .i64 (E : Nat)) ∧ ∃ sv2, RStep w w' b sv sv2 L1 ∧ Fr (rfoot b sv) W w') := fun W hW => by
    have := unhide HM W sv L 4 j x (unhide YY W hW).2 o0 m0 (by omega)
    rw [← hE, ← hL1] at this
    exact this
  clear h hl x0 S0 hjr hxr m0 o0 hE hL1 hEt hl1
  go_enter Tryz.func14, Tryz.ntmps14
  go_upto_region 1 with fail
  rw [← unhide HW]
  clear HW
  have B0 : Below w0.heap.size w0 w0 := Below.refl _ _
  have KQ := hide (unhide KG _ B0 j)
  rw [tj] at KQ
  go_wp2_with fail
  refine (unhide KQ).mono ?_
  rintro e z1 ⟨tm0, rfl, y⟩
  have B1' := bw_tr B0 y
  have B1 := B1'.alloc B1'.size (.cells #[.int .u8 tm0.kd, .int .i64 tm0.n, .int .i64 tm0.a, .int .i64 tm0.b] 54)
  clear KQ y B0 B1'
  go_upto_region 2 with fail
  generalize z1.alloc (.cells #[.int .u8 tm0.kd, .int .i64 tm0.n, .int .i64 tm0.a, .int .i64 tm0.b] 54) = Z1 at *
  have KQ := hide (unhide KG _ B1 x)
  rw [tx] at KQ
  go_wp2_with fail
  refine (unhide KQ).mono ?_
  rintro e z2 ⟨tm1, rfl, y⟩
  have B2' := bw_tr B1 y
  have B2 := B2'.alloc B2'.size (.cells #[.int .u8 tm1.kd, .int .i64 tm1.n, .int .i64 tm1.a, .int .i64 tm1.b] 54)
  clear KQ y B1 B2'
  go_upto_region 3 with fail
  generalize z2.alloc (.cells #[.int .u8 tm1.kd, .int .i64 tm1.n, .int .i64 tm1.a, .int .i64 tm1.b] 54) = Z2 at *
  obtain ⟨k9, s9⟩ := unhide YY _ B2
  have S9 := hide s9
  have KA := hide (unhide HK0 _ B2)
  clear s9 YY KG B2 HK0
  go_wp2_with fail
  refine (unhide KA).mono ?_
  rintro e v1 ⟨rfl, sv1, s1, f1⟩
  have S1 := hide s1
  have k1 := kept_rfr k9 (unhide S9).st f1 (by decide) (by decide)
  clear s1 f1 S9 k9 KA
  have hm0 : may L1.length ⟨4, 5, (E : Int), 0⟩ = true := may_kdf (by omega) (unhide HT0) (Or.inl rfl)
  have KM := hide (unhide HM v1 sv1 L1 5 (E : Int) 0 (unhide S1) (unhide HO0) hm0 (by have := unhide HL1; omega))
  go_wp2_with fail
  refine (unhide KM).mono ?_
  rintro e q0 ⟨rfl, sw0, Sq', f⟩
  have Sq0 := hide Sq'
  have kq0 := kept_rfr k1 (unhide S1).st f (by decide) (by decide)
  obtain ⟨n0, hn0⟩ : ∃ n : Nat, n = mkN L1 ⟨4, 5, (E : Int), 0⟩ := ⟨_, rfl⟩
  obtain ⟨M0, hM0⟩ : ∃ M, M = mkL L1 ⟨4, 5, (E : Int), 0⟩ := ⟨_, rfl⟩
  rw [← hn0]
  rw [← hM0] at Sq0
  have HL0' : Hid (M0.length + 11 ≤ 1048576) := by have := mkL_len L1 ⟨4, 5, (E : Int), 0⟩; have := unhide HL1; unfold Hid; rw [hM0]; omega
  have HT1 : Hid (thr M0.length (E : Int) = true) := by have := mkL_le L1 ⟨4, 5, (E : Int), 0⟩; have t9 := unhide HT0; unfold Hid; rw [hM0]; exact thr_mono t9 this
  have HX0 := hide (And.intro hn0 hM0)
  clear KM S1 k1 f Sq' hm0 hn0 hM0
  have hm1 : may M0.length ⟨4, 6, (E : Int), 0⟩ = true := may_kdf (by omega) (unhide HT1) (Or.inl rfl)
  have KM := hide (unhide HM q0 sw0 M0 6 (E : Int) 0 (unhide Sq0) (unhide HO1) hm1 (by have := unhide HL0'; omega))
  go_wp2_with fail
  refine (unhide KM).mono ?_
  rintro e q1 ⟨rfl, sw1, Sq', f⟩
  have Sq1 := hide Sq'
  have kq1 := kept_rfr kq0 (unhide Sq0).st f (by decide) (by decide)
  obtain ⟨n1, hn1⟩ : ∃ n : Nat, n = mkN M0 ⟨4, 6, (E : Int), 0⟩ := ⟨_, rfl⟩
  obtain ⟨M1, hM1⟩ : ∃ M, M = mkL M0 ⟨4, 6, (E : Int), 0⟩ := ⟨_, rfl⟩
  rw [← hn1]
  rw [← hM1] at Sq1
  have HL1' : Hid (M1.length + 10 ≤ 1048576) := by have := mkL_len M0 ⟨4, 6, (E : Int), 0⟩; have := unhide HL0'; unfold Hid; rw [hM1]; omega
  have HT2 : Hid (thr M1.length (E : Int) = true) := by have := mkL_le M0 ⟨4, 6, (E : Int), 0⟩; have t9 := unhide HT1; unfold Hid; rw [hM1]; exact thr_mono t9 this
  have HX1 := hide (And.intro hn1 hM1)
  clear KM Sq0 kq0 f Sq' hm1 hn1 hM1
  have hm2 : may M1.length ⟨4, 7, (E : Int), 0⟩ = true := may_kdf (by omega) (unhide HT2) (Or.inl rfl)
  have KM := hide (unhide HM q1 sw1 M1 7 (E : Int) 0 (unhide Sq1) (unhide HO2) hm2 (by have := unhide HL1'; omega))
  go_wp2_with fail
  refine (unhide KM).mono ?_
  rintro e q2 ⟨rfl, sw2, Sq', f⟩
  have Sq2 := hide Sq'
  have kq2 := kept_rfr kq1 (unhide Sq1).st f (by decide) (by decide)
  obtain ⟨n2, hn2⟩ : ∃ n : Nat, n = mkN M1 ⟨4, 7, (E : Int), 0⟩ := ⟨_, rfl⟩
  obtain ⟨M2, hM2⟩ : ∃ M, M = mkL M1 ⟨4, 7, (E : Int), 0⟩ := ⟨_, rfl⟩
  rw [← hn2]
  rw [← hM2] at Sq2
  have HL2' : Hid (M2.length + 9 ≤ 1048576) := by have := mkL_len M1 ⟨4, 7, (E : Int), 0⟩; have := unhide HL1'; unfold Hid; rw [hM2]; omega
  have HT3 : Hid (thr M2.length (E : Int) = true) := by have := mkL_le M1 ⟨4, 7, (E : Int), 0⟩; have t9 := unhide HT2; unfold Hid; rw [hM2]; exact thr_mono t9 this
  have HX2 := hide (And.intro hn2 hM2)
  clear KM Sq1 kq1 f Sq' hm2 hn2 hM2
  have hm3 : may M2.length ⟨4, 8, (E : Int), 0⟩ = true := may_kdf (by omega) (unhide HT3) (Or.inl rfl)
  have KM := hide (unhide HM q2 sw2 M2 8 (E : Int) 0 (unhide Sq2) (unhide HO3) hm3 (by have := unhide HL2'; omega))
  go_wp2_with fail
  refine (unhide KM).mono ?_
  rintro e q3 ⟨rfl, sw3, Sq', f⟩
  have Sq3 := hide Sq'
  have kq3 := kept_rfr kq2 (unhide Sq2).st f (by decide) (by decide)
  obtain ⟨n3, hn3⟩ : ∃ n : Nat, n = mkN M2 ⟨4, 8, (E : Int), 0⟩ := ⟨_, rfl⟩
  obtain ⟨M3, hM3⟩ : ∃ M, M = mkL M2 ⟨4, 8, (E : Int), 0⟩ := ⟨_, rfl⟩
  rw [← hn3]
  rw [← hM3] at Sq3
  have HL3' : Hid (M3.length + 8 ≤ 1048576) := by have := mkL_len M2 ⟨4, 8, (E : Int), 0⟩; have := unhide HL2'; unfold Hid; rw [hM3]; omega
  have HT4 : Hid (thr M3.length (E : Int) = true) := by have := mkL_le M2 ⟨4, 8, (E : Int), 0⟩; have t9 := unhide HT3; unfold Hid; rw [hM3]; exact thr_mono t9 this
  have HX3 := hide (And.intro hn3 hM3)
  clear KM Sq2 kq2 f Sq' hm3 hn3 hM3
  have hval : secV L j x = [j, (E : Int), (n0 : Int), (n1 : Int), (n2 : Int), (n3 : Int)] ∧ secL L j x = M3 := by
    obtain ⟨e1, e2⟩ := unhide HE
    obtain ⟨a0, c0⟩ := unhide HX0
    obtain ⟨a1, c1⟩ := unhide HX1
    obtain ⟨a2, c2⟩ := unhide HX2
    obtain ⟨a3, c3⟩ := unhide HX3
    have es : secE L j x = E := e1.symm
    constructor
    · unfold secV s7 s6 s5
      rw [es, ← e2, ← c0, ← c1, ← c2, ← a0, ← a1, ← a2, ← a3]
    · unfold secL s8 s7 s6 s5
      rw [es, ← e2, ← c0, ← c1, ← c2, ← c3]
  have HVAL := hide hval
  clear hval
  have h0 := blk_cell (i := 0) kq3 rfl
  have h1 := blk_cell (i := 1) kq3 rfl
  have h2 := blk_cell (i := 2) kq3 rfl
  have h3 := blk_cell (i := 3) kq3 rfl
  have h4 := blk_cell (i := 4) kq3 rfl
  have h5 := blk_cell (i := 5) kq3 rfl
  have hf := fun i => blk_froz (i := i) kq3
  go_wp2_with fail
  obtain ⟨SV, bV⟩ := (unhide Sq3).six kq3 (by decide) (by decide) (by omega) (.int .i64 j) (.int .i64 (E : Int)) (.int .i64 (n0 : Int)) (.int .i64 (n1 : Int)) (.int .i64 (n2 : Int)) (.int .i64 (n3 : Int))
  generalize ((((((q3.setCell ⟨w.heap.size, 0, none⟩ (.int .i64 j)).setCell ⟨w.heap.size, 1, none⟩ (.int .i64 (E : Int))).setCell ⟨w.heap.size, 2, none⟩ (.int .i64 (n0 : Int))).setCell ⟨w.heap.size, 3, none⟩ (.int .i64 (n1 : Int))).setCell ⟨w.heap.size, 4, none⟩ (.int .i64 (n2 : Int))).setCell ⟨w.heap.size, 5, none⟩ (.int .i64 (n3 : Int))) = V at SV bV ⊢
  have g0 := blk_cell (i := 0) bV rfl
  have g1 := blk_cell (i := 1) bV rfl
  have g2 := blk_cell (i := 2) bV rfl
  have g3 := blk_cell (i := 3) bV rfl
  have g4 := blk_cell (i := 4) bV rfl
  have g5 := blk_cell (i := 5) bV rfl
  have HSV := hide SV
  clear SV bV kq3 h0 h1 h2 h3 h4 h5 hf Sq3
  refine bodyPost_ret (v := .tuple #[.agg #[.int .i64 j, .int .i64 (E : Int), .int .i64 (n0 : Int), .int .i64 (n1 : Int), .int .i64 (n2 : Int), .int .i64 (n3 : Int)], .int .i64 0]) (by simp [results, Tryz.results14, go_sem, g0, g1, g2, g3, g4, g5]) rfl ⟨?_, sw3, ?_⟩
  · rw [(unhide HVAL).1]; rfl
  · rw [(unhide HVAL).2]; exact unhide HSV
set_option maxRecDepth 100000 in
set_option maxHeartbeats 4000000 in
theorem rnext_any {b : Nat} {sv : Value} {L : List Tm} {w : World} (h : Rs w b sv L) (i c x : Int) (hi : -9223372036854775808 ≤ i ∧ i ≤ 9223372036854775807) (hc : -9223372036854775808 ≤ c ∧ c ≤ 9223372036854775807) (hl : L.length + 40 ≤ 1048576) :
    Calls Tryz.prog 12 #[.pointer (some ⟨b, 0, none⟩), .int .i64 i, .int .i64 c, .int .i64 x] w fun e w' => e = .returned (.tuple #[secA (nxtV L i c x), .int .i64 (nxtE L i c x)]) ∧ ∃ sv', RStep w w' b sv sv' (nxtL L i c x) := by
  obtain ⟨w0, hw0⟩ : ∃ w0, w0 = w.alloc (.cells #[.int .i64 0, .int .i64 0, .int .i64 0, .int .i64 0, .int .i64 0, .int .i64 0] 38) := ⟨_, rfl⟩
  have x0 : Below w.heap.size w w0 := by rw [hw0]; exact bwA' _ _
  have k0 : w0.heap[w.heap.size]? = some (.cells #[.int .i64 0, .int .i64 0, .int .i64 0, .int .i64 0, .int .i64 0, .int .i64 0] 38 (0, 0)) := by rw [hw0]; exact heap_alloc_new _ _
  have HW := hide hw0
  have S0 : Hid (RStep w w0 b sv sv L) := RStep.same h x0
  have KG : Hid (∀ W, Below w0.heap.size w0 W → ∀ z, Calls Tryz.prog 42 #[.pointer (some ⟨b, 0, none⟩), .int .i64 z] W fun e w' => ∃ t : Tm, e = .returned (.tuple #[.agg #[.int .u8 t.kd, .int .i64 t.n, .int .i64 t.a, .int .i64 t.b], .bool (thr L.length z)]) ∧ Below W.heap.size W w') := fun W hW z => (rget_any b sv L z W ((unhide S0).st.bw hW)).mono (fun e w' hh => ⟨_, hh.1, hh.2⟩)
  have YY : Hid (∀ W, Below w0.heap.size w0 W → W.heap[w.heap.size]? = some (.cells #[.int .i64 0, .int .i64 0, .int .i64 0, .int .i64 0, .int .i64 0, .int .i64 0] 38 (0, 0)) ∧ RStep w W b sv sv L) := fun W hW => ⟨kept_blk k0 hW, (unhide S0).after hW⟩
  clear hw0 k0
  cases tx : thr L.length x
  · have e1 : nx3 L i c x = false := by unfold nx3; simp [tx]
    unfold nxtL nxtV nxtE
    rw [e1]
    simp only [Bool.false_eq_true, if_false, zero6]
    clear e1 h hl x0 S0
    go_enter Tryz.func12, Tryz.ntmps12
    go_upto_region 1 with fail
    rw [← unhide HW]
    clear HW
    have B0 : Below w0.heap.size w0 w0 := Below.refl _ _
    have KQ := hide (unhide KG _ B0 x)
    rw [tx] at KQ
    go_wp2_with fail
    refine (unhide KQ).mono ?_
    rintro e z1 ⟨tm0, rfl, y⟩
    have B1' := bw_tr B0 y
    have B1 := B1'.alloc B1'.size (.cells #[.int .u8 tm0.kd, .int .i64 tm0.n, .int .i64 tm0.a, .int .i64 tm0.b] 54)
    clear KQ y B0 B1'
    go_upto_region 2 with fail
    generalize z1.alloc (.cells #[.int .u8 tm0.kd, .int .i64 tm0.n, .int .i64 tm0.a, .int .i64 tm0.b] 54) = Z1 at *
    obtain ⟨k9, s9⟩ := unhide YY _ B1
    have S9 := hide s9
    clear s9 YY KG B1
    have h0 := blk_cell (i := 0) k9 rfl
    have h1 := blk_cell (i := 1) k9 rfl
    have h2 := blk_cell (i := 2) k9 rfl
    have h3 := blk_cell (i := 3) k9 rfl
    have h4 := blk_cell (i := 4) k9 rfl
    have h5 := blk_cell (i := 5) k9 rfl
    have hf := fun i => blk_froz (i := i) k9
    go_wp2_with fail
    obtain ⟨SV, bV⟩ := (unhide S9).six k9 (by decide) (by decide) (by omega) (.int .i64 0) (.int .i64 0) (.int .i64 0) (.int .i64 0) (.int .i64 0) (.int .i64 0)
    generalize ((((((Z1.setCell ⟨w.heap.size, 0, none⟩ (.int .i64 0)).setCell ⟨w.heap.size, 1, none⟩ (.int .i64 0)).setCell ⟨w.heap.size, 2, none⟩ (.int .i64 0)).setCell ⟨w.heap.size, 3, none⟩ (.int .i64 0)).setCell ⟨w.heap.size, 4, none⟩ (.int .i64 0)).setCell ⟨w.heap.size, 5, none⟩ (.int .i64 0)) = V at SV bV ⊢
    have g0 := blk_cell (i := 0) bV rfl
    have g1 := blk_cell (i := 1) bV rfl
    have g2 := blk_cell (i := 2) bV rfl
    have g3 := blk_cell (i := 3) bV rfl
    have g4 := blk_cell (i := 4) bV rfl
    have g5 := blk_cell (i := 5) bV rfl
    have HSV := hide SV
    clear SV bV k9 h0 h1 h2 h3 h4 h5 hf S9
    exact bodyPost_ret (v := .tuple #[.agg #[.int .i64 0, .int .i64 0, .int .i64 0, .int .i64 0, .int .i64 0, .int .i64 0], .int .i64 1]) (by simp [results, Tryz.results12, go_sem, g0, g1, g2, g3, g4, g5]) rfl ⟨rfl, sv, unhide HSV⟩
  have op : Tm.ok ⟨3, 0, i, c⟩ := ⟨by simp, by simp, by simp, by simp, hi.1, hi.2, hc.1, hc.2⟩
  have HP : Hid (∀ W, Below w0.heap.size w0 W → Calls Tryz.prog 25 #[.pointer (some ⟨b, 0, none⟩), .agg #[.int .u8 3, .int .i64 0, .int .i64 i, .int .i64 c]] W fun e w' => e = .returned (.tuple #[.int .i64 (mkN L ⟨3, 0, i, c⟩ : Nat), .int .i64 (mkE L ⟨3, 0, i, c⟩)]) ∧ ∃ sv2, RStep w w' b sv sv2 (mkL L ⟨3, 0, i, c⟩) ∧ Fr (rfoot b sv) W w') := fun W hW => by
    refine (rmake_any b sv L ⟨3, 0, i, c⟩ W (unhide YY W hW).2.st op).mono ?_
    rintro e w' ⟨h1, sv2, h2⟩
    exact ⟨h1, sv2, (unhide YY W hW).2.trans h2, h2.fr⟩
  cases tic : (thr L.length i && thr L.length c)
  · have e1 : nx3 L i c x = false := by unfold nx3; cases q1 : thr L.length i <;> cases q2 : thr L.length c <;> simp_all
    have e2 : may L.length ⟨3, 0, i, c⟩ = false := by unfold may; cases q1 : thr L.length i <;> cases q2 : thr L.length c <;> simp_all
    have e3 : mkE L ⟨3, 0, i, c⟩ = 1 := by unfold mkE; simp [e2]
    have e4 : mkL L ⟨3, 0, i, c⟩ = L := by unfold mkL; simp [e2]
    have e5 : mkN L ⟨3, 0, i, c⟩ = 0 := by unfold mkN; simp [e2]
    unfold nxtL nxtV nxtE
    rw [e1]
    simp only [Bool.false_eq_true, if_false, zero6]
    rw [e3, e4, e5] at HP
    clear e1 e2 e3 e4 e5 h hl x0 S0 op tic
    go_enter Tryz.func12, Tryz.ntmps12
    go_upto_region 1 with fail
    rw [← unhide HW]
    clear HW
    have B0 : Below w0.heap.size w0 w0 := Below.refl _ _
    have KQ := hide (unhide KG _ B0 x)
    rw [tx] at KQ
    go_wp2_with fail
    refine (unhide KQ).mono ?_
    rintro e z1 ⟨tm0, rfl, y⟩
    have B1' := bw_tr B0 y
    have B1 := B1'.alloc B1'.size (.cells #[.int .u8 tm0.kd, .int .i64 tm0.n, .int .i64 tm0.a, .int .i64 tm0.b] 54)
    clear KQ y B0 B1'
    go_upto_region 2 with fail
    generalize z1.alloc (.cells #[.int .u8 tm0.kd, .int .i64 tm0.n, .int .i64 tm0.a, .int .i64 tm0.b] 54) = Z1 at *
    obtain ⟨k9, s9⟩ := unhide YY _ B1
    have S9 := hide s9
    have KA := hide (unhide HP _ B1)
    clear s9 YY KG B1 HP
    go_wp2_with fail
    refine (unhide KA).mono ?_
    rintro e v1 ⟨rfl, sv1, s1, f1⟩
    have S1 := hide s1
    have k1 := kept_rfr k9 (unhide S9).st f1 (by decide) (by decide)
    clear s1 f1 S9 k9 KA
    have h0 := blk_cell (i := 0) k1 rfl
    have h1 := blk_cell (i := 1) k1 rfl
    have h2 := blk_cell (i := 2) k1 rfl
    have h3 := blk_cell (i := 3) k1 rfl
    have h4 := blk_cell (i := 4) k1 rfl
    have h5 := blk_cell (i := 5) k1 rfl
    have hf := fun i => blk_froz (i := i) k1
    go_wp2_with fail
    obtain ⟨SV, bV⟩ := (unhide S1).six k1 (by decide) (by decide) (by omega) (.int .i64 0) (.int .i64 0) (.int .i64 0) (.int .i64 0) (.int .i64 0) (.int .i64 0)
    generalize ((((((v1.setCell ⟨w.heap.size, 0, none⟩ (.int .i64 0)).setCell ⟨w.heap.size, 1, none⟩ (.int .i64 0)).setCell ⟨w.heap.size, 2, none⟩ (.int .i64 0)).setCell ⟨w.heap.size, 3, none⟩ (.int .i64 0)).setCell ⟨w.heap.size, 4, none⟩ (.int .i64 0)).setCell ⟨w.heap.size, 5, none⟩ (.int .i64 0)) = V at SV bV ⊢
    have g0 := blk_cell (i := 0) bV rfl
    have g1 := blk_cell (i := 1) bV rfl
    have g2 := blk_cell (i := 2) bV rfl
    have g3 := blk_cell (i := 3) bV rfl
    have g4 := blk_cell (i := 4) bV rfl
    have g5 := blk_cell (i := 5) bV rfl
    have HSV := hide SV
    clear SV bV k1 h0 h1 h2 h3 h4 h5 hf S1
    exact bodyPost_ret (v := .tuple #[.agg #[.int .i64 0, .int .i64 0, .int .i64 0, .int .i64 0, .int .i64 0, .int .i64 0], .int .i64 1]) (by simp [results, Tryz.results12, go_sem, g0, g1, g2, g3, g4, g5]) rfl ⟨rfl, sv1, unhide HSV⟩
  simp only [Bool.and_eq_true] at tic
  obtain ⟨ti, tc⟩ := tic
  have e1 : nx3 L i c x = true := by unfold nx3; simp [ti, tc, tx]
  unfold nxtL nxtV nxtE
  rw [e1]
  simp only [if_true]
  clear e1
  obtain ⟨a0, a1, a2, a3, a4, a5, ha⟩ : ∃ a0 a1 a2 a3 a4 a5, secV (nxL L i c) (nxJ L i c : Nat) x = [a0, a1, a2, a3, a4, a5] := ⟨_, _, _, _, _, _, rfl⟩
  rw [ha, secA6]
  have m1 := may_pair ti tc
  have e6 : mkE L ⟨3, 0, i, c⟩ = 0 := (mk_ok m1 (by omega)).1
  obtain ⟨P, hP⟩ : ∃ P : Nat, P = nxP L i c := ⟨_, rfl⟩
  obtain ⟨L1, hL1⟩ : ∃ L1, L1 = mkL L ⟨3, 0, i, c⟩ := ⟨_, rfl⟩
  have tP : thr L1.length (P : Int) = true ∧ (P : Int) ≤ 1048577 := by rw [hP, hL1]; exact mkN_thr m1 (by omega)
  have e7 : mkN L ⟨3, 0, i, c⟩ = P := hP.symm
  rw [e6, e7, ← hL1] at HP
  have l1 : L1.length ≤ L.length + 1 := by rw [hL1]; exact mkL_len _ _
  have m2 : may L1.length ⟨4, 3, (P : Int), 0⟩ = true := may_kdf (by omega) tP.1 (Or.inl rfl)
  have o2 : Tm.ok ⟨4, 3, (P : Int), 0⟩ := ok_kdf (by have := thr_iff.1 tP.1; omega)
  obtain ⟨J, hJ⟩ : ∃ J : Nat, J = nxJ L i c := ⟨_, rfl⟩
  obtain ⟨L2, hL2⟩ : ∃ L2, L2 = nxL L i c := ⟨_, rfl⟩
  have e2 : mkN L1 ⟨4, 3, (P : Int), 0⟩ = J := by rw [hJ, hL1, hP]; rfl
  have e3 : mkL L1 ⟨4, 3, (P : Int), 0⟩ = L2 := by rw [hL2, hL1, hP]; rfl
  have tJ : thr L2.length (J : Int) = true ∧ (J : Int) ≤ 1048577 := by rw [← e2, ← e3]; exact mkN_thr m2 (by omega)
  have l2 : L2.length ≤ L1.length + 1 := by rw [← e3]; exact mkL_len _ _
  have l3 : L.length ≤ L2.length := by rw [← e3]; exact Nat.le_trans (by rw [hL1]; exact mkL_le _ _) (mkL_le _ _)
  rw [← hJ, ← hL2] at ha ⊢
  have HM : Hid (∀ W sv', RStep w W b sv sv' L1 → Calls Tryz.prog 43 #[.pointer (some ⟨b, 0, none⟩), .int .i64 3, .int .i64 (P : Int), .int .i64 0] W fun e w' => e = .returned (.int .i64 (J : Nat)) ∧ ∃ sv2, RStep w w' b sv sv2 L2 ∧ Fr (rfoot b sv') W w') := fun W sv' hs => by
    refine (rkdf_any hs.st 3 (P : Int) 0 o2 m2 (by omega)).mono ?_
    rintro e w' ⟨h1, sv2, h2⟩
    rw [e2] at h1
    rw [e3] at h2
    exact ⟨h1, sv2, hs.trans h2, h2.fr⟩
  have HF : Hid (∀ W sv', RStep w W b sv sv' L2 → Calls Tryz.prog 14 #[.pointer (some ⟨b, 0, none⟩), .int .i64 (J : Int), .int .i64 x] W fun e w' => e = .returned (.tuple #[.agg #[.int .i64 a0, .int .i64 a1, .int .i64 a2, .int .i64 a3, .int .i64 a4, .int .i64 a5], .int .i64 0]) ∧ ∃ sv2, RStep w w' b sv sv2 (secL L2 (J : Nat) x) ∧ Fr (rfoot b sv') W w') := fun W sv' hs => by
    have := rfrom_any hs.st (J : Int) x (by omega)
    have e9 : fr2 L2 (J : Int) x = true := by unfold fr2; rw [tJ.1, thr_mono tx l3]; rfl
    unfold frV frE frL at this
    rw [e9] at this
    simp only [if_true] at this
    rw [ha, secA6] at this
    refine this.mono ?_
    rintro e w' ⟨h1, sv2, h2⟩
    exact ⟨h1, sv2, hs.trans h2, h2.fr⟩
  clear h hl x0 S0 op m1 e6 hP hL1 tP e7 l1 m2 o2 hJ hL2 e2 e3 tJ l2 l3 ha ti tc
  go_enter Tryz.func12, Tryz.ntmps12
  go_upto_region 1 with fail
  rw [← unhide HW]
  clear HW
  have B0 : Below w0.heap.size w0 w0 := Below.refl _ _
  have KQ := hide (unhide KG _ B0 x)
  rw [tx] at KQ
  go_wp2_with fail
  refine (unhide KQ).mono ?_
  rintro e z1 ⟨tm0, rfl, y⟩
  have B1' := bw_tr B0 y
  have B1 := B1'.alloc B1'.size (.cells #[.int .u8 tm0.kd, .int .i64 tm0.n, .int .i64 tm0.a, .int .i64 tm0.b] 54)
  clear KQ y B0 B1'
  go_upto_region 2 with fail
  generalize z1.alloc (.cells #[.int .u8 tm0.kd, .int .i64 tm0.n, .int .i64 tm0.a, .int .i64 tm0.b] 54) = Z1 at *
  obtain ⟨k9, s9⟩ := unhide YY _ B1
  have S9 := hide s9
  have KA := hide (unhide HP _ B1)
  clear s9 YY KG B1 HP
  go_wp2_with fail
  refine (unhide KA).mono ?_
  rintro e v1 ⟨rfl, sv1, s1, f1⟩
  have S1 := hide s1
  have k1 := kept_rfr k9 (unhide S9).st f1 (by decide) (by decide)
  have KB := hide (unhide HM v1 sv1 (unhide S1))
  clear s1 f1 S9 k9 KA HM
  go_wp2_with fail
  refine (unhide KB).mono ?_
  rintro e v2 ⟨rfl, sv2, s2, f2⟩
  have S2 := hide s2
  have k2 := kept_rfr k1 (unhide S1).st f2 (by decide) (by decide)
  have KC := hide (unhide HF v2 sv2 (unhide S2))
  clear s2 f2 S1 k1 KB HF
  go_wp2_with fail
  refine (unhide KC).mono ?_
  rintro e v3 ⟨rfl, sv3, s3, f3⟩
  have S3 := hide s3
  have k3 := kept_rfr k2 (unhide S2).st f3 (by decide) (by decide)
  clear s3 f3 S2 k2 KC
  have h0 := blk_cell (i := 0) k3 rfl
  have h1 := blk_cell (i := 1) k3 rfl
  have h2 := blk_cell (i := 2) k3 rfl
  have h3 := blk_cell (i := 3) k3 rfl
  have h4 := blk_cell (i := 4) k3 rfl
  have h5 := blk_cell (i := 5) k3 rfl
  have hf := fun i => blk_froz (i := i) k3
  go_wp2_with fail
  obtain ⟨SV, bV⟩ := (unhide S3).six k3 (by decide) (by decide) (by omega) (.int .i64 a0) (.int .i64 a1) (.int .i64 a2) (.int .i64 a3) (.int .i64 a4) (.int .i64 a5)
  generalize ((((((v3.setCell ⟨w.heap.size, 0, none⟩ (.int .i64 a0)).setCell ⟨w.heap.size, 1, none⟩ (.int .i64 a1)).setCell ⟨w.heap.size, 2, none⟩ (.int .i64 a2)).setCell ⟨w.heap.size, 3, none⟩ (.int .i64 a3)).setCell ⟨w.heap.size, 4, none⟩ (.int .i64 a4)).setCell ⟨w.heap.size, 5, none⟩ (.int .i64 a5)) = V at SV bV ⊢
  have g0 := blk_cell (i := 0) bV rfl
  have g1 := blk_cell (i := 1) bV rfl
  have g2 := blk_cell (i := 2) bV rfl
  have g3 := blk_cell (i := 3) bV rfl
  have g4 := blk_cell (i := 4) bV rfl
  have g5 := blk_cell (i := 5) bV rfl
  have HSV := hide SV
  clear SV bV k3 h0 h1 h2 h3 h4 h5 hf S3
  exact bodyPost_ret (v := .tuple #[.agg #[.int .i64 a0, .int .i64 a1, .int .i64 a2, .int .i64 a3, .int .i64 a4, .int .i64 a5], .int .i64 0]) (by simp [results, Tryz.results12, go_sem, g0, g1, g2, g3, g4, g5]) rfl ⟨rfl, sv3, unhide HSV⟩
end Go.Proofs.YtcbafeneaoaglaaGreatDoor.Tn

/- The document's Held and Context. -/
namespace Go.Proofs.YtcbafeneaoaglaaGreatDoor.Tn
open Go.RowKit Go.Maps

def pubsB (L : List Tm) (T : List Nd) : Bool := T.all (fun n => decide (n.pub = 0) || thr L.length n.pub)
set_option maxRecDepth 100000 in
set_option maxHeartbeats 4000000 in
theorem q9held_any {b : Nat} {sv : Value} {L : List Tm} {w : World} (h : Rs w b sv L) (v : Value) (T : List Nd) (ht : Trd w v T) :
    Calls Tryz.prog 34 #[.pointer (some ⟨b, 0, none⟩), .agg #[v]] w fun e w' => e = .returned (.bool (pubsB L T)) ∧ Below w.heap.size w w' := by
  obtain ⟨a, c, rfl⟩ := ht.slice
  obtain ⟨w0, hw0⟩ : ∃ w0, w0 = w.alloc (.cells #[.slice a T.length c] 25) := ⟨_, rfl⟩
  have x0 : Below w.heap.size w w0 := by rw [hw0]; exact bwA' _ _
  have k0 : w0.heap[w.heap.size]? = some (.cells #[.slice a T.length c] 25 (0, 0)) := by rw [hw0]; exact heap_alloc_new _ _
  obtain ⟨-, hat⟩ := ht.at
  obtain ⟨N, hN⟩ : ∃ N, N = T.length := ⟨_, rfl⟩
  have hlen := ht.len
  rw [← hN] at k0 hw0 hlen ⊢
  have HW := hide hw0
  have HK0 : Hid (∀ W, Below w0.heap.size w0 W → W.cell? ⟨w.heap.size, 0, none⟩ = some (.slice a N c) ∧ Below w.heap.size w W) := fun W hW => ⟨blk_cell (kept_blk k0 hW) rfl, bw_tr x0 hW⟩
  have HH := hide (And.intro h (And.intro hat hN))
  have hNI : (N : Int) ≤ 140737488355328 := by omega
  clear h ht hw0 x0 k0 hat hN
  go_enter Tryz.func34, Tryz.ntmps34
  go_upto_region 1 with fail
  rw [← unhide HW]
  go_wp2_with fail
  go_loopw [5] (fun iv wr => ∃ k : Nat, k ≤ N ∧ iv = .int .i64 (k : Int) ∧ Hid (Below w0.heap.size w0 wr ∧ (T.take k).all (fun n => decide (n.pub = 0) || thr L.length n.pub) = true)) (fun iv _ => (N - intOf iv).toNat)
  case atStart => exact ⟨0, Nat.zero_le _, rfl, ⟨Below.refl _ _, by simp⟩⟩
  case round =>
    obtain ⟨k, hk, rfl, HR⟩ := hrel
    obtain ⟨hbw, hal⟩ := unhide HR
    obtain ⟨c0, hbw2⟩ := unhide HK0 _ hbw
    by_cases hlt : k < N
    · obtain ⟨h, hat, hN⟩ := unhide HH
      have hkT : k < T.length := by omega
      obtain ⟨gb, o, rfl, hh⟩ := hat (by omega)
      obtain ⟨u, ⟨cc0, cc1, cc2, cc3⟩, hU⟩ := hh wr hbw2 k hkT
      have hnd := ndAt_of hkT
      obtain ⟨⟨pub, mem, ep, un⟩, hn⟩ : ∃ n, n = ndAt T k := ⟨_, rfl⟩
      rw [← hn] at cc0 hnd
      simp only at cc0
      have htk : (T.take (k + 1)).all (fun n => decide (n.pub = 0) || thr L.length n.pub) = (decide (pub = 0) || thr L.length pub) := by
        rw [List.take_add_one, hnd]
        simp only [Option.toList_some, List.all_append, hal, List.all_cons, List.all_nil, Bool.true_and, Bool.and_true]
      by_cases hp0 : pub = 0
      · subst hp0
        have HX : Hid (Below w0.heap.size w0 wr ∧ (T.take (k + 1)).all (fun n => decide (n.pub = 0) || thr L.length n.pub) = true) := ⟨hbw, by rw [htk]; simp⟩
        clear h hat hN hbw hal hkT hh hnd hn htk HR hU cc1 cc2 cc3 hbw2
        go_wp2_with fail
        go_roundw
        case rel => exact ⟨k + 1, by omega, by go_num, unhide HX⟩
        case measure => simp only [intOf]; omega
      · have z1 : (pub == 0) = false := by simpa using hp0
        have z2 : decide (pub = 0) = false := by simpa using hp0
        have z3 : (pub != 0) = true := by simpa using hp0
        rw [z2, Bool.false_or] at htk
        have KH := q9is_any (h.bw hbw2) pub
        cases htp : thr L.length pub
        · have e : pubsB L T = false := by
            unfold pubsB
            rw [List.all_eq_false]
            exact ⟨_, List.mem_of_getElem? hnd, by simp [z2, htp]⟩
          rw [htp] at KH
          have HK := hide KH
          have HE := hide e
          have HB2 := hide hbw2
          clear h hat hN hbw hal hkT hh hnd hn htk HR KH e hbw2 htp hU cc1 cc2 cc3
          go_wp2_with fail
          refine (unhide HK).mono ?_
          rintro e w7 ⟨rfl, y⟩
          go_wp2
          go_ret
          rw [unhide HE]
          exact ⟨rfl, bw_tr (unhide HB2) y⟩
        · rw [htp] at KH htk
          have HK := hide KH
          have HX : Hid (∀ W, Below wr.heap.size wr W → Below w0.heap.size w0 W ∧ (T.take (k + 1)).all (fun n => decide (n.pub = 0) || thr L.length n.pub) = true) := fun W hW => ⟨bw_tr hbw hW, htk⟩
          clear h hat hN hbw hal hkT hh hnd hn htk HR KH htp hU cc1 cc2 cc3 hbw2
          go_wp2_with fail
          refine (unhide HK).mono ?_
          rintro e w7 ⟨rfl, y⟩
          have HX2 := hide (unhide HX _ y)
          clear y HX HK
          go_wp2_with fail
          go_roundw
          case rel => exact ⟨k + 1, by omega, by go_num, unhide HX2⟩
          case measure => simp only [intOf]; omega
    · have e : pubsB L T = true := by
        have := hal
        rw [List.take_of_length_le (by have := (unhide HH).2.2; omega)] at this
        exact this
      have HE := hide e
      have HB := hide hbw2
      clear e HR hbw hal hbw2
      go_wp2
      go_ret
      rw [unhide HE]
      exact ⟨rfl, unhide HB⟩
end Go.Proofs.YtcbafeneaoaglaaGreatDoor.Tn

/- The document's Context. -/
namespace Go.Proofs.YtcbafeneaoaglaaGreatDoor.Tn
open Go.RowKit Go.Maps

theorem lsF_dig (r : List Nat) : ∀ (L : List Tm) (n : Nat), Rg L.length r → 1 ≤ n → n ≤ L.length → L.length + r.length ≤ 1048576 → lsF L (r.map fun (m : Nat) => (m : Int)) (n : Int) = ((digF L r n).1, ((digF L r n).2 : Int), 0) := by
  induction r with
  | nil => intro L n _ _ _ _; rfl
  | cons a r ih =>
    intro L n hr h1 h2 hl
    simp only [List.length_cons] at hl
    have ha := hr a (by simp)
    have hm : may L.length ⟨3, 0, (a : Int), (n : Int)⟩ = true := may_pair (thr_iff.2 (by omega)) (thr_iff.2 (by omega))
    have hk := mk_ok hm (by omega)
    have ht := thr_iff.1 (mkN_thr hm (by omega)).1
    have hl1 := mkL_len L ⟨3, 0, (a : Int), (n : Int)⟩
    have hl2 := mkL_le L ⟨3, 0, (a : Int), (n : Int)⟩
    have := ih (mkL L ⟨3, 0, (a : Int), (n : Int)⟩) (mkN L ⟨3, 0, (a : Int), (n : Int)⟩) (fun m hm' => by have := hr m (by simp [hm']); omega) (by omega) (by omega) (by omega)
    simp only [List.map_cons, lsF, hk.1, if_true, digF]
    exact this
theorem ls_dig {L : List Tm} {acc : List Nat} (hne : acc ≠ []) (hr : Rg L.length acc) (hl : L.length + acc.length ≤ 1048576) : ls L (acc.map fun (m : Nat) => (m : Int)) = ((digP L acc).1, ((digP L acc).2 : Int), 0) := by
  have hall : (acc.map fun (m : Nat) => (m : Int)).all (thr L.length) = true := by
    rw [List.all_eq_true]
    intro z hz
    obtain ⟨m, hm, rfl⟩ := List.mem_map.1 hz
    have := hr m hm
    exact thr_iff.2 (by omega)
  unfold ls digP
  rw [if_pos hall, ← List.map_reverse]
  cases hrev : acc.reverse with
  | nil => exact absurd (List.reverse_eq_nil_iff.1 hrev) hne
  | cons n r =>
    have hlen : acc.length = r.length + 1 := by rw [← List.length_reverse, hrev]; rfl
    have hmem : ∀ m, m ∈ n :: r → m ∈ acc := fun m hm => by rw [← hrev] at hm; exact List.mem_reverse.1 hm
    have hn := hr n (hmem n (by simp))
    exact lsF_dig r L n (fun m hm => hr m (hmem m (by simp [hm]))) hn.1 hn.2 (by omega)

theorem digF_ok (r : List Nat) : ∀ (L : List Tm) (n : Nat), Rg L.length r → 1 ≤ n → n ≤ L.length → L.length + r.length ≤ 1048576 → 1 ≤ (digF L r n).2 ∧ (digF L r n).2 ≤ (digF L r n).1.length ∧ (digF L r n).1.length ≤ L.length + r.length := by
  induction r with
  | nil => intro L n _ h1 h2 _; exact ⟨h1, h2, by simp [digF]⟩
  | cons a r ih =>
    intro L n hr h1 h2 hl
    simp only [List.length_cons] at hl ⊢
    have ha := hr a (by simp)
    have hm : may L.length ⟨3, 0, (a : Int), (n : Int)⟩ = true := may_pair (thr_iff.2 (by omega)) (thr_iff.2 (by omega))
    have ht := thr_iff.1 (mkN_thr hm (by omega)).1
    have hl1 := mkL_len L ⟨3, 0, (a : Int), (n : Int)⟩
    have hl2 := mkL_le L ⟨3, 0, (a : Int), (n : Int)⟩
    have := ih (mkL L ⟨3, 0, (a : Int), (n : Int)⟩) (mkN L ⟨3, 0, (a : Int), (n : Int)⟩) (fun m hm' => by have := hr m (by simp [hm']); omega) (by omega) (by omega) (by omega)
    simp only [digF]
    omega
theorem digP_ok {L : List Tm} {acc : List Nat} (hne : acc ≠ []) (hr : Rg L.length acc) (hl : L.length + acc.length ≤ 1048576) : 1 ≤ (digP L acc).2 ∧ (digP L acc).2 ≤ (digP L acc).1.length ∧ (digP L acc).1.length < 1048576 := by
  unfold digP
  cases hrev : acc.reverse with
  | nil => exact absurd (List.reverse_eq_nil_iff.1 hrev) hne
  | cons n r =>
    have hlen : acc.length = r.length + 1 := by rw [← List.length_reverse, hrev]; rfl
    have hmem : ∀ m, m ∈ n :: r → m ∈ acc := fun m hm => by rw [← hrev] at hm; exact List.mem_reverse.1 hm
    have hn := hr n (hmem n (by simp))
    have := digF_ok r L n (fun m hm => hr m (hmem m (by simp [hm]))) hn.1 hn.2 (by omega)
    simp only
    omega
theorem digF_ge (r : List Nat) : ∀ (L : List Tm) (n : Nat), L.length ≤ (digF L r n).1.length := by
  induction r with
  | nil => intro L n; simp [digF]
  | cons a r ih =>
    intro L n
    simp only [digF]
    exact Nat.le_trans (mkL_le _ _) (ih _ _)
theorem digP_len {L : List Tm} {acc : List Nat} (hne : acc ≠ []) (hr : Rg L.length acc) (hl : L.length + acc.length ≤ 1048576) : (digP L acc).1.length ≤ L.length + acc.length ∧ L.length ≤ (digP L acc).1.length := by
  unfold digP
  cases hrev : acc.reverse with
  | nil => exact absurd (List.reverse_eq_nil_iff.1 hrev) hne
  | cons n r =>
    have hlen : acc.length = r.length + 1 := by rw [← List.length_reverse, hrev]; rfl
    have hmem : ∀ m, m ∈ n :: r → m ∈ acc := fun m hm => by rw [← hrev] at hm; exact List.mem_reverse.1 hm
    have hn := hr n (hmem n (by simp))
    have := digF_ok r L n (fun m hm => hr m (hmem m (by simp [hm]))) hn.1 hn.2 (by omega)
    have := digF_ge r L n
    simp only
    omega
/-- The document's store, and a row of numbers that was made since. -/
structure RC (w W : World) (b : Nat) (sv sv' : Value) (L' : List Tm) (lv : Value) (acc : List Nat) : Prop where
  s : RStep w W b sv sv' L'
  r : NRow w.heap.size W lv acc
theorem RC.step {w W W' : World} {b : Nat} {sv sv1 sv2 : Value} {L1 L2 : List Tm} {lv : Value} {acc : List Nat} (h : RC w W b sv sv1 L1 lv acc) (s : RStep W W' b sv1 sv2 L2) : RC w W' b sv sv2 L2 lv acc :=
  ⟨h.s.trans s, h.r.keep (fun x hx => s.fr.block x (h.r.lt x hx).2 (h.r.rfoot h.s.st x hx))⟩
theorem RC.bw {w W W' : World} {b : Nat} {sv sv1 : Value} {L1 : List Tm} {lv : Value} {acc : List Nat} (h : RC w W b sv sv1 L1 lv acc) (hb : Below W.heap.size W W') : RC w W' b sv sv1 L1 lv acc := h.step (RStep.same h.s.st hb)
theorem RC.grown {w W W5 : World} {b : Nat} {sv sv1 : Value} {L1 : List Tm} {lv v' : Value} {acc acc' : List Nat} {ob : Obj} (h : RC w W b sv sv1 L1 lv acc) (hr : NRow w.heap.size W5 v' acc') (hg : (W.alloc ob).grownBy W5 lv.ownBlock) : RC w W5 b sv sv1 L1 v' acc' := by
  have f1 : Fr lv.ownBlock.toList W W5 := ((Fr.refl lv.ownBlock.toList W).alloc ob).tr (Fr.ofGrown hg)
  refine ⟨⟨h.s.st.keep f1 (fun x hx c => h.r.rfoot h.s.st x (by simpa using c) hx), ?_, h.s.place⟩, hr⟩
  exact h.s.fr.trans f1 (fun _ _ c => c) (fun x hx c => by have := (h.r.lt x (by simpa using c)).1; omega)
theorem RC.keepG {w W W5 : World} {b : Nat} {sv sv1 : Value} {L1 : List Tm} {lv : Value} {acc : List Nat} {ob : Obj} {k : Nat} {cs : Array Value} {t : TypeId} (h : RC w W b sv sv1 L1 lv acc) (hg : (W.alloc ob).grownBy W5 lv.ownBlock) (hk : W.heap[k]? = some (.cells cs t (0, 0))) (ht : t ≠ 3) : W5.heap[k]? = some (.cells cs t (0, 0)) := by
  have f1 : Fr lv.ownBlock.toList W W5 := ((Fr.refl lv.ownBlock.toList W).alloc ob).tr (Fr.ofGrown hg)
  rw [f1.block k (lt_of_blk hk) (fun c => by
    obtain ⟨cur, e⟩ := h.r.block (k := k) (by simpa using c)
    rw [hk] at e; injection e with e; injection e with _ e; exact ht e)]
  exact hk
theorem nrow_two {w : World} (W : World) (x y : Nat) (hw : w.heap.size ≤ W.heap.size) : NRow w.heap.size (W.alloc (.cells #[.int .i64 (x : Int), .int .i64 (y : Int)] 3)) (.slice (some ⟨W.heap.size, 0, none⟩) 2 2) [x, y] := by
  refine ⟨by simp, Or.inr ⟨W.heap.size, 2, _, rfl, hw, heap_alloc_new W _, ?_⟩⟩
  simp [maxLen]
theorem cells_two (w : World) (x0 x1 : Value) (t : TypeId) : ∀ j u, [x0, x1][j]? = some u → (w.alloc (.cells #[x0, x1] t)).cell? ((⟨w.heap.size, 0, none⟩ : Addr).add j) = some u := by
  intro j u hj
  match j, hj with
  | 0, hj => simp at hj; subst hj; exact blk_cell (heap_alloc_new _ _) rfl
  | 1, hj => simp at hj; subst hj; exact blk_cell (i := 1) (heap_alloc_new _ _) rfl
end Go.Proofs.YtcbafeneaoaglaaGreatDoor.Tn
