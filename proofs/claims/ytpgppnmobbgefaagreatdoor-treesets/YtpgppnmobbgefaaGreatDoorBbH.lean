/- Texts joined: BoGNumber BoGNode. -/
import Derived.Test.YtpgppnmobbgefaaGreatDoorBbG
/- The contract of growNumber of a Book: three marks more behind each kept list. -/
namespace Go.Proofs.YtpgppnmobbgefaaGreatDoor
open Go.RowKit Go.Maps

/-- The kept lists of the kind are marks. -/
def MkdNumber (es : List Ent) (X : Nat → List Value) : Prop := ∀ i x, es[i]? = some x → Mks (mkNumber x.n) 1 x.m (X i)
set_option maxRecDepth 100000 in
set_option maxHeartbeats 4000000 in
theorem growNumber_b (B b : Nat) (cnt : Int) (F : Nat → Value) (es : List Ent) (X : Nat → List Value) (w : World) (hb : w.heap[b]? = some (.cells (bookF cnt F) 70 (0, 0))) (h : Ke kdNumber B w (F 2) es X) (hB : B ≤ w.heap.size) (hN : es.length ≤ 1048576) (hes : ∀ x ∈ es, x.n ≤ 1048576 ∧ x.m ≤ 1048576) (hmk : MkdNumber es X) :
    Calls Tryz.prog 88 #[.pointer (some ⟨b, 0, none⟩)] w fun e w' => e = .returned (.tuple #[]) ∧ (∃ es' X', Ke kdNumber B w' (F 2) es' X' ∧ es'.length = es.length ∧ (∀ x ∈ es', x.n ≤ 1048576 ∧ x.m ≤ 1048579) ∧ MkdNumber es' X') ∧ Tf [3, 128] B w w' := by
  obtain ⟨i0, hi0, hz0, hz1, hz2⟩ := info_parts Tryz.infoInt
  have c2 := book_cell hb (k := 2) (by decide) (by decide)
  obtain ⟨a, cap, hF⟩ := h.form
  rw [hF] at c2 h ⊢
  have HC : Hid (∀ w', Tf [3, 128] B w w' → w'.cell? ⟨b, 2, none⟩ = some (.slice a es.length cap)) := fun w' ht => by
    have := book_cell (ht.blk hb (by decide)) (k := 2) (by decide) (by decide)
    rw [hF] at this; exact this
  have HL : Hid (Ke kdNumber B w (.slice a es.length cap) es X ∧ MkdNumber es X ∧ ∀ (j : Nat) (x : Ent), es[j]? = some x → x.n ≤ 1048576 ∧ x.m ≤ 1048576) := ⟨h, hmk, fun j x hx => hes x (List.mem_of_getElem? hx)⟩
  have hNI : ((es.length : Nat) : Int) ≤ 1048576 := by omega
  clear hF h hes hb hN hmk
  obtain ⟨N, hN⟩ : ∃ N, N = es.length := ⟨_, rfl⟩
  rw [← hN] at c2 HC HL hNI ⊢
  have HN := hide hN
  clear hN
  go_enter Tryz.func88, Tryz.ntmps88
  go_wp2_with fail
  go_loopw [10] (fun iv wr => ∃ (i : Nat) (es' : List Ent) (X' : Nat → List Value), iv = .int .i64 (i : Int) ∧ i ≤ N ∧ Hid (Ke kdNumber B wr (.slice a N cap) es' X' ∧ es'.length = N ∧ MkdNumber es' X' ∧ (∀ (j : Nat) (x : Ent), es'[j]? = some x → x.n ≤ 1048576 ∧ x.m ≤ 1048576 + (if j < i then 3 else 0)) ∧ Tf [3, 128] B w wr)) (fun iv _ => (N - intOf iv).toNat)
  case atStart => exact ⟨0, es, X, rfl, by omega, ⟨(unhide HL).1, (unhide HN).symm, (unhide HL).2.1, fun j x hx => by simpa using (unhide HL).2.2 j x hx, Tf.refl _ _ _⟩⟩
  case round =>
    obtain ⟨i, es', X', rfl, hi, hst⟩ := hrel
    by_cases hin : i < N
    · have e2 := unhide HC wr (unhide hst).2.2.2.2
      obtain ⟨x0, hx0⟩ : ∃ x, es'[i]? = some x := ⟨_, List.getElem?_eq_getElem (by rw [(unhide hst).2.1]; exact hin)⟩
      obtain ⟨g, rfl, -⟩ := (unhide hst).1.entry hx0
      have hiN : (i : Int) < (N : Int) := by omega
      have hi0' : (0 : Int) ≤ (i : Int) := by omega
      have hst2 : Hid (Ke kdNumber B wr (.slice (some ⟨g, 0, none⟩) N cap) es' X' ∧ es'.length = N ∧ MkdNumber es' X' ∧ (∀ (j : Nat) (x : Ent), es'[j]? = some x → x.n ≤ 1048576 ∧ x.m ≤ 1048576 + (if j < i then 3 else if j = i then 0 else 0)) ∧ Tf [3, 128] B w wr) := by
        obtain ⟨h1, h2, h3, h4, h5⟩ := unhide hst
        exact ⟨h1, h2, h3, fun j x hx => by have := h4 j x hx; by_cases q : j < i <;> by_cases q2 : j = i <;> simp [q, q2] at this ⊢ <;> omega, h5⟩
      clear hx0 hst
      go_wp2_with fail
      go_loopw [4] (fun kv wq => ∃ (k : Nat) (es' : List Ent) (X' : Nat → List Value), kv = .int .i64 (k : Int) ∧ k ≤ 3 ∧ Hid (Ke kdNumber B wq (.slice (some ⟨g, 0, none⟩) N cap) es' X' ∧ es'.length = N ∧ MkdNumber es' X' ∧ (∀ (j : Nat) (x : Ent), es'[j]? = some x → x.n ≤ 1048576 ∧ x.m ≤ 1048576 + (if j < i then 3 else if j = i then k else 0)) ∧ Tf [3, 128] B w wq)) (fun kv _ => (3 - intOf kv).toNat)
      case atStart => exact ⟨0, es', X', rfl, by omega, hst2⟩
      case round =>
        clear hst2
        obtain ⟨k, eq, Xq, rfl, hk, hsq⟩ := hrel
        by_cases hk3 : k < 3
        · obtain ⟨hK, hlen, hmq, hbd, hTf⟩ := unhide hsq
          obtain ⟨x, hx⟩ : ∃ x, eq[i]? = some x := ⟨_, List.getElem?_eq_getElem (by rw [hlen]; exact hin)⟩
          obtain ⟨hxn, hxm⟩ := hbd i x hx
          have hxm2 : x.m ≤ 1048579 := by simp at hxm; omega
          obtain ⟨g', e', hBg, d1, d2, -, cur, hgc⟩ := hK.entry hx
          cases e'
          obtain ⟨p, cp, hxv⟩ := own_slice (hK.row i x hx)
          have hmx : x.m + 1 ≤ maxLen := by unfold maxLen; omega
          have hby : (x.m + 1) * 8 ≤ 140737488355328 := by omega
          have hBw : B ≤ wr.heap.size := Nat.le_trans hB hTf.size
          have HK : Hid (∀ w', Calls Tryz.prog 178 #[.int .i64 (x.n : Int)] w' fun e w'' => ∃ z, e = .returned (.int .i64 z) ∧ mkNumber x.n [.int .i64 z] ∧ Below w'.heap.size w' w'') := fun w' => markNumber_b x.n w' hxn
          have HA : Hid (∀ W, Below wr.heap.size wr W → W.cell? ⟨g, i * 2, none⟩ = some x.v ∧ W.ownsRow B 3 1 x.v x.m (Xq i) ∧ Ke kdNumber B W (.slice (some ⟨g, 0, none⟩) N cap) eq Xq ∧ B ≤ W.heap.size ∧ Tf [3, 128] B w W) := fun W hb => by
            have hK2 := hK.bw hb
            obtain ⟨g2, e2', -, d1', -⟩ := hK2.entry hx
            cases e2'
            exact ⟨d1', hK2.row i x hx, hK2, Nat.le_trans hBw hb.size, hTf.after hb hB⟩
          have HM := hide (And.intro hmx hby)
          have HS : Hid (∀ (v' : Value) z, mkNumber x.n [.int .i64 z] → (eq.set i ⟨v', x.n, x.m + 1⟩).length = N ∧ MkdNumber (eq.set i ⟨v', x.n, x.m + 1⟩) (fun j => if j = i then Xq i ++ [.int .i64 z] else Xq j) ∧ (∀ (j : Nat) (y : Ent), (eq.set i ⟨v', x.n, x.m + 1⟩)[j]? = some y → y.n ≤ 1048576 ∧ y.m ≤ 1048576 + (if j < i then 3 else if j = i then k + 1 else 0))) := fun v' z hm => by
            have hil : i < eq.length := by rw [hlen]; exact hin
            refine ⟨by simp [hlen], fun j y hy => ?_, fun j y hy => ?_⟩
            · by_cases q : j = i
              · subst q
                rw [List.getElem?_set_self hil] at hy
                cases hy
                simp only [if_true]
                exact (hmq j x hx).snoc rfl hm
              · rw [List.getElem?_set_ne (Ne.symm q)] at hy
                simp only [q, if_false]
                exact hmq j y hy
            · by_cases q : j = i
              · subst q
                rw [List.getElem?_set_self hil] at hy
                cases hy
                simp at hxm ⊢
                omega
              · rw [List.getElem?_set_ne (Ne.symm q)] at hy
                have := hbd j y hy
                simp only [q, if_false] at this ⊢
                exact this
          have bA : Below wr.heap.size wr wr.drew := (Below.refl _ _).drew
          obtain ⟨v, hv⟩ : ∃ v, v = x.v := ⟨_, rfl⟩
          have hxv2 : v = .slice p x.m cp := by rw [hv]; exact hxv
          rw [← hv] at d1 HA
          have HV := hide hv
          have HX := hide hx
          have hkI : (k : Int) < 3 := by omega
          have e2q := unhide HC wr hTf
          subst hxv2
          have HBw := hide hBw
          obtain ⟨xm, hxm3⟩ : ∃ xm, xm = x.m := ⟨_, rfl⟩
          rw [← hxm3] at d1 HA HM HV
          have HXM := hide hxm3
          clear hK hlen hmq hbd hTf hx hxn hxm hxm2 hBg hgc hxv hmx hby hBw hv hsq hxm3
          go_wp2_with fail
          go_region_law (first | (refine step_app rfl (.tmp 27) (.tmp 33) 31 rfl B 3 i0 (.int .i64 0) 1 8 Tryz.underlying31 hi0 hz0 hz1 hz2 rfl (by decide) (.slice p xm cp) xm (Xq i) (by simp [Act.eval]) (World.ownsRow.alloc X1.2.1 _) ⟨z1.heap.size, 0, none⟩ 1 1 [.int .i64 z] (by simp [Act.eval]) rfl (cells_newB1 z1 _ _) (oneNumber z) (unhide HM).1 (unhide HM).2 (Nat.le_trans X1.2.2.2.1 (by simp)) ?_; intro v' w1 hown' hgrow hat; have X3 := (X1.2.2.1).grown (unhide HX) ((Fr.refl [] z1).alloc _) (v' := v') (news := [.int .i64 z]) (by rw [← unhide HXM]; exact hown') (by rw [← unhide HV]; exact hgrow) (by rw [← unhide HV]; exact hat) X1.2.2.2.1 (by decide); obtain ⟨k1, k2, k3, k4⟩ := X3; rw [← unhide HV] at k3; obtain ⟨gv, cpv, rfl⟩ := row_formB hown') | (go_simp; go_wp2_with (first | (go_at_call 178; refine (unhide HK _).mono ?_; rintro e z1 ⟨z, rfl, hm, b1⟩; have b2 := bw_tr bA b1; have X1 := unhide HA _ b2; have x1 := X1.1; have X2 := unhide HA _ (bw_tr b2 (bwA z1 (.cells #[.int .i64 z] 3))); have x2 := X2.1))))
          all_goals
            have hz := unhide HS (.slice (some ⟨gv, 0, none⟩) (xm + 1) cpv) z hm
            obtain ⟨E2, X2', HZ⟩ : ∃ E2 X2', Hid (Ke kdNumber B ((w1).setCell ⟨g, i * 2, none⟩ (.slice (some ⟨gv, 0, none⟩) (xm + 1) cpv)) (.slice (some ⟨g, 0, none⟩) N cap) E2 X2' ∧ E2.length = N ∧ MkdNumber E2 X2' ∧ (∀ (j : Nat) (y : Ent), E2[j]? = some y → y.n ≤ 1048576 ∧ y.m ≤ 1048576 + (if j < i then 3 else if j = i then k + 1 else 0)) ∧ Tf [3, 128] B w ((w1).setCell ⟨g, i * 2, none⟩ (.slice (some ⟨gv, 0, none⟩) (xm + 1) cpv))) :=
              ⟨eq.set i ⟨.slice (some ⟨gv, 0, none⟩) (xm + 1) cpv, x.n, x.m + 1⟩, fun j => if j = i then Xq i ++ [.int .i64 z] else Xq j, k1, hz.1, hz.2.1, hz.2.2, X1.2.2.2.2.trans k2⟩
            clear k1 k2 X1 X2 hm hz
            go_wp2_with fail
            go_roundw
            case rel => exact ⟨k + 1, E2, X2', by go_num, by omega, HZ⟩
            case measure => simp only [intOf]; omega
        · obtain rfl : k = 3 := by omega
          have HX3 : Hid (Ke kdNumber B wr (.slice (some ⟨g, 0, none⟩) N cap) eq Xq ∧ eq.length = N ∧ MkdNumber eq Xq ∧ (∀ (j : Nat) (x : Ent), eq[j]? = some x → x.n ≤ 1048576 ∧ x.m ≤ 1048576 + (if j < i + 1 then 3 else 0)) ∧ Tf [3, 128] B w wr) := by
            obtain ⟨h1, h2, h3, h4, h5⟩ := unhide hsq
            refine ⟨h1, h2, h3, fun j x hx => ?_, h5⟩
            have := h4 j x hx
            refine ⟨this.1, Nat.le_trans this.2 (Nat.add_le_add_left ?_ _)⟩
            by_cases q : j < i
            · rw [if_pos q, if_pos (by omega)]; exact Nat.le_refl _
            · by_cases q2 : j = i
              · rw [if_neg q, if_pos q2, if_pos (by omega)]; exact Nat.le_refl _
              · rw [if_neg q, if_neg q2]; omega
          clear hsq
          go_wp2_with fail
          go_roundw
          case rel => exact ⟨i + 1, eq, Xq, by go_num, by omega, HX3⟩
          case measure => simp only [intOf]; omega
    · obtain rfl : i = N := by omega
      go_wp2_with fail
      go_end0
      obtain ⟨h1, h2, h3, h4, h5⟩ := unhide hst
      refine ⟨rfl, ⟨es', X', h1, h2, fun x hx => ?_, h3⟩, h5⟩
      obtain ⟨j, hj⟩ := List.mem_iff_getElem?.1 hx
      have := h4 j x hj
      refine ⟨this.1, Nat.le_trans this.2 ?_⟩
      split <;> omega
end Go.Proofs.YtpgppnmobbgefaaGreatDoor

/- The contract of growNode of a Book: three marks more behind each kept list. -/
namespace Go.Proofs.YtpgppnmobbgefaaGreatDoor
open Go.RowKit Go.Maps

/-- The kept lists of the kind are marks. -/
def MkdNode (es : List Ent) (X : Nat → List Value) : Prop := ∀ i x, es[i]? = some x → Mks (mkNode x.n) 4 x.m (X i)
set_option maxRecDepth 100000 in
set_option maxHeartbeats 4000000 in
theorem growNode_b (B b : Nat) (cnt : Int) (F : Nat → Value) (es : List Ent) (X : Nat → List Value) (w : World) (hb : w.heap[b]? = some (.cells (bookF cnt F) 70 (0, 0))) (h : Ke kdNode B w (F 19) es X) (hB : B ≤ w.heap.size) (hN : es.length ≤ 1048576) (hes : ∀ x ∈ es, x.n ≤ 1048576 ∧ x.m ≤ 1048576) (hmk : MkdNode es X) :
    Calls Tryz.prog 105 #[.pointer (some ⟨b, 0, none⟩)] w fun e w' => e = .returned (.tuple #[]) ∧ (∃ es' X', Ke kdNode B w' (F 19) es' X' ∧ es'.length = es.length ∧ (∀ x ∈ es', x.n ≤ 1048576 ∧ x.m ≤ 1048579) ∧ MkdNode es' X') ∧ Tf [95, 240] B w w' := by
  obtain ⟨i0, hi0, hz0, hz1, hz2⟩ := info_parts infoNode
  have c2 := book_cell hb (k := 19) (by decide) (by decide)
  obtain ⟨a, cap, hF⟩ := h.form
  rw [hF] at c2 h ⊢
  have HC : Hid (∀ w', Tf [95, 240] B w w' → w'.cell? ⟨b, 19, none⟩ = some (.slice a es.length cap)) := fun w' ht => by
    have := book_cell (ht.blk hb (by decide)) (k := 19) (by decide) (by decide)
    rw [hF] at this; exact this
  have HL : Hid (Ke kdNode B w (.slice a es.length cap) es X ∧ MkdNode es X ∧ ∀ (j : Nat) (x : Ent), es[j]? = some x → x.n ≤ 1048576 ∧ x.m ≤ 1048576) := ⟨h, hmk, fun j x hx => hes x (List.mem_of_getElem? hx)⟩
  have hNI : ((es.length : Nat) : Int) ≤ 1048576 := by omega
  clear hF h hes hb hN hmk
  obtain ⟨N, hN⟩ : ∃ N, N = es.length := ⟨_, rfl⟩
  rw [← hN] at c2 HC HL hNI ⊢
  have HN := hide hN
  clear hN
  go_enter Tryz.func105, Tryz.ntmps105
  go_wp2_with fail
  go_loopw [10] (fun iv wr => ∃ (i : Nat) (es' : List Ent) (X' : Nat → List Value), iv = .int .i64 (i : Int) ∧ i ≤ N ∧ Hid (Ke kdNode B wr (.slice a N cap) es' X' ∧ es'.length = N ∧ MkdNode es' X' ∧ (∀ (j : Nat) (x : Ent), es'[j]? = some x → x.n ≤ 1048576 ∧ x.m ≤ 1048576 + (if j < i then 3 else 0)) ∧ Tf [95, 240] B w wr)) (fun iv _ => (N - intOf iv).toNat)
  case atStart => exact ⟨0, es, X, rfl, by omega, ⟨(unhide HL).1, (unhide HN).symm, (unhide HL).2.1, fun j x hx => by simpa using (unhide HL).2.2 j x hx, Tf.refl _ _ _⟩⟩
  case round =>
    obtain ⟨i, es', X', rfl, hi, hst⟩ := hrel
    by_cases hin : i < N
    · have e2 := unhide HC wr (unhide hst).2.2.2.2
      obtain ⟨x0, hx0⟩ : ∃ x, es'[i]? = some x := ⟨_, List.getElem?_eq_getElem (by rw [(unhide hst).2.1]; exact hin)⟩
      obtain ⟨g, rfl, -⟩ := (unhide hst).1.entry hx0
      have hiN : (i : Int) < (N : Int) := by omega
      have hi0' : (0 : Int) ≤ (i : Int) := by omega
      have hst2 : Hid (Ke kdNode B wr (.slice (some ⟨g, 0, none⟩) N cap) es' X' ∧ es'.length = N ∧ MkdNode es' X' ∧ (∀ (j : Nat) (x : Ent), es'[j]? = some x → x.n ≤ 1048576 ∧ x.m ≤ 1048576 + (if j < i then 3 else if j = i then 0 else 0)) ∧ Tf [95, 240] B w wr) := by
        obtain ⟨h1, h2, h3, h4, h5⟩ := unhide hst
        exact ⟨h1, h2, h3, fun j x hx => by have := h4 j x hx; by_cases q : j < i <;> by_cases q2 : j = i <;> simp [q, q2] at this ⊢ <;> omega, h5⟩
      clear hx0 hst
      go_wp2_with fail
      go_loopw [4] (fun kv wq => ∃ (k : Nat) (es' : List Ent) (X' : Nat → List Value), kv = .int .i64 (k : Int) ∧ k ≤ 3 ∧ Hid (Ke kdNode B wq (.slice (some ⟨g, 0, none⟩) N cap) es' X' ∧ es'.length = N ∧ MkdNode es' X' ∧ (∀ (j : Nat) (x : Ent), es'[j]? = some x → x.n ≤ 1048576 ∧ x.m ≤ 1048576 + (if j < i then 3 else if j = i then k else 0)) ∧ Tf [95, 240] B w wq)) (fun kv _ => (3 - intOf kv).toNat)
      case atStart => exact ⟨0, es', X', rfl, by omega, hst2⟩
      case round =>
        clear hst2
        obtain ⟨k, eq, Xq, rfl, hk, hsq⟩ := hrel
        by_cases hk3 : k < 3
        · obtain ⟨hK, hlen, hmq, hbd, hTf⟩ := unhide hsq
          obtain ⟨x, hx⟩ : ∃ x, eq[i]? = some x := ⟨_, List.getElem?_eq_getElem (by rw [hlen]; exact hin)⟩
          obtain ⟨hxn, hxm⟩ := hbd i x hx
          have hxm2 : x.m ≤ 1048579 := by simp at hxm; omega
          obtain ⟨g', e', hBg, d1, d2, -, cur, hgc⟩ := hK.entry hx
          cases e'
          obtain ⟨p, cp, hxv⟩ := own_slice (hK.row i x hx)
          have hmx : x.m + 1 ≤ maxLen := by unfold maxLen; omega
          have hby : (x.m + 1) * 48 ≤ 140737488355328 := by omega
          have hBw : B ≤ wr.heap.size := Nat.le_trans hB hTf.size
          have HK : Hid (∀ w', Calls Tryz.prog 183 #[.int .i64 (x.n : Int)] w' fun e w'' => ∃ z, e = .returned (.agg #[.int .i64 z, .int .i64 0, .int .i64 0, .slice none 0 0]) ∧ mkNode x.n [.int .i64 z, .int .i64 0, .int .i64 0, .slice none 0 0] ∧ Below w'.heap.size w' w'') := fun w' => markNode_b x.n w' hxn
          have HA : Hid (∀ W, Below wr.heap.size wr W → W.cell? ⟨g, i * 2, none⟩ = some x.v ∧ W.ownsRow B 95 4 x.v x.m (Xq i) ∧ Ke kdNode B W (.slice (some ⟨g, 0, none⟩) N cap) eq Xq ∧ B ≤ W.heap.size ∧ Tf [95, 240] B w W) := fun W hb => by
            have hK2 := hK.bw hb
            obtain ⟨g2, e2', -, d1', -⟩ := hK2.entry hx
            cases e2'
            exact ⟨d1', hK2.row i x hx, hK2, Nat.le_trans hBw hb.size, hTf.after hb hB⟩
          have HM := hide (And.intro hmx hby)
          have HS : Hid (∀ (v' : Value) z, mkNode x.n [.int .i64 z, .int .i64 0, .int .i64 0, .slice none 0 0] → (eq.set i ⟨v', x.n, x.m + 1⟩).length = N ∧ MkdNode (eq.set i ⟨v', x.n, x.m + 1⟩) (fun j => if j = i then Xq i ++ [.int .i64 z, .int .i64 0, .int .i64 0, .slice none 0 0] else Xq j) ∧ (∀ (j : Nat) (y : Ent), (eq.set i ⟨v', x.n, x.m + 1⟩)[j]? = some y → y.n ≤ 1048576 ∧ y.m ≤ 1048576 + (if j < i then 3 else if j = i then k + 1 else 0))) := fun v' z hm => by
            have hil : i < eq.length := by rw [hlen]; exact hin
            refine ⟨by simp [hlen], fun j y hy => ?_, fun j y hy => ?_⟩
            · by_cases q : j = i
              · subst q
                rw [List.getElem?_set_self hil] at hy
                cases hy
                simp only [if_true]
                exact (hmq j x hx).snoc rfl hm
              · rw [List.getElem?_set_ne (Ne.symm q)] at hy
                simp only [q, if_false]
                exact hmq j y hy
            · by_cases q : j = i
              · subst q
                rw [List.getElem?_set_self hil] at hy
                cases hy
                simp at hxm ⊢
                omega
              · rw [List.getElem?_set_ne (Ne.symm q)] at hy
                have := hbd j y hy
                simp only [q, if_false] at this ⊢
                exact this
          have bA : Below wr.heap.size wr wr.drew := (Below.refl _ _).drew
          obtain ⟨v, hv⟩ : ∃ v, v = x.v := ⟨_, rfl⟩
          have hxv2 : v = .slice p x.m cp := by rw [hv]; exact hxv
          rw [← hv] at d1 HA
          have HV := hide hv
          have HX := hide hx
          have hkI : (k : Int) < 3 := by omega
          have e2q := unhide HC wr hTf
          subst hxv2
          have HBw := hide hBw
          obtain ⟨xm, hxm3⟩ : ∃ xm, xm = x.m := ⟨_, rfl⟩
          rw [← hxm3] at d1 HA HM HV
          have HXM := hide hxm3
          clear hK hlen hmq hbd hTf hx hxn hxm hxm2 hBg hgc hxv hmx hby hBw hv hsq hxm3
          go_wp2_with fail
          go_region_law (first | (refine step_app rfl (.tmp 27) (.tmp 33) 22 rfl B 95 i0 (.agg #[.int .i64 0, .int .i64 0, .int .i64 0, .slice none 0 0]) 4 48 Tryz.underlying22 hi0 hz0 hz1 hz2 rfl (by decide) (.slice p xm cp) xm (Xq i) (by simp [Act.eval]) (World.ownsRow.alloc X1.2.1 _) ⟨z1.heap.size, 0, none⟩ 1 1 [.int .i64 z, .int .i64 0, .int .i64 0, .slice none 0 0] (by simp [Act.eval]) rfl (cells_newB4 z1 _ _ _ _ _) (oneNode z) (unhide HM).1 (unhide HM).2 (Nat.le_trans X1.2.2.2.1 (by simp)) ?_; intro v' w1 hown' hgrow hat; have X3 := (X1.2.2.1).grown (unhide HX) ((Fr.refl [] z1).alloc _) (v' := v') (news := [.int .i64 z, .int .i64 0, .int .i64 0, .slice none 0 0]) (by rw [← unhide HXM]; exact hown') (by rw [← unhide HV]; exact hgrow) (by rw [← unhide HV]; exact hat) X1.2.2.2.1 (by decide); obtain ⟨k1, k2, k3, k4⟩ := X3; rw [← unhide HV] at k3; obtain ⟨gv, cpv, rfl⟩ := row_formB hown') | (go_simp; go_wp2_with (first | (go_at_call 183; refine (unhide HK _).mono ?_; rintro e z1 ⟨z, rfl, hm, b1⟩; have b2 := bw_tr bA b1; have X1 := unhide HA _ b2; have x1 := X1.1; have X2 := unhide HA _ (bw_tr b2 (bwA z1 (.cells #[.int .i64 z, .int .i64 0, .int .i64 0, .slice none 0 0] 95))); have x2 := X2.1))))
          all_goals
            have hz := unhide HS (.slice (some ⟨gv, 0, none⟩) (xm + 1) cpv) z hm
            obtain ⟨E2, X2', HZ⟩ : ∃ E2 X2', Hid (Ke kdNode B ((w1).setCell ⟨g, i * 2, none⟩ (.slice (some ⟨gv, 0, none⟩) (xm + 1) cpv)) (.slice (some ⟨g, 0, none⟩) N cap) E2 X2' ∧ E2.length = N ∧ MkdNode E2 X2' ∧ (∀ (j : Nat) (y : Ent), E2[j]? = some y → y.n ≤ 1048576 ∧ y.m ≤ 1048576 + (if j < i then 3 else if j = i then k + 1 else 0)) ∧ Tf [95, 240] B w ((w1).setCell ⟨g, i * 2, none⟩ (.slice (some ⟨gv, 0, none⟩) (xm + 1) cpv))) :=
              ⟨eq.set i ⟨.slice (some ⟨gv, 0, none⟩) (xm + 1) cpv, x.n, x.m + 1⟩, fun j => if j = i then Xq i ++ [.int .i64 z, .int .i64 0, .int .i64 0, .slice none 0 0] else Xq j, k1, hz.1, hz.2.1, hz.2.2, X1.2.2.2.2.trans k2⟩
            clear k1 k2 X1 X2 hm hz
            go_wp2_with fail
            go_roundw
            case rel => exact ⟨k + 1, E2, X2', by go_num, by omega, HZ⟩
            case measure => simp only [intOf]; omega
        · obtain rfl : k = 3 := by omega
          have HX3 : Hid (Ke kdNode B wr (.slice (some ⟨g, 0, none⟩) N cap) eq Xq ∧ eq.length = N ∧ MkdNode eq Xq ∧ (∀ (j : Nat) (x : Ent), eq[j]? = some x → x.n ≤ 1048576 ∧ x.m ≤ 1048576 + (if j < i + 1 then 3 else 0)) ∧ Tf [95, 240] B w wr) := by
            obtain ⟨h1, h2, h3, h4, h5⟩ := unhide hsq
            refine ⟨h1, h2, h3, fun j x hx => ?_, h5⟩
            have := h4 j x hx
            refine ⟨this.1, Nat.le_trans this.2 (Nat.add_le_add_left ?_ _)⟩
            by_cases q : j < i
            · rw [if_pos q, if_pos (by omega)]; exact Nat.le_refl _
            · by_cases q2 : j = i
              · rw [if_neg q, if_pos q2, if_pos (by omega)]; exact Nat.le_refl _
              · rw [if_neg q, if_neg q2]; omega
          clear hsq
          go_wp2_with fail
          go_roundw
          case rel => exact ⟨i + 1, eq, Xq, by go_num, by omega, HX3⟩
          case measure => simp only [intOf]; omega
    · obtain rfl : i = N := by omega
      go_wp2_with fail
      go_end0
      obtain ⟨h1, h2, h3, h4, h5⟩ := unhide hst
      refine ⟨rfl, ⟨es', X', h1, h2, fun x hx => ?_, h3⟩, h5⟩
      obtain ⟨j, hj⟩ := List.mem_iff_getElem?.1 hx
      have := h4 j x hj
      refine ⟨this.1, Nat.le_trans this.2 ?_⟩
      split <;> omega
end Go.Proofs.YtpgppnmobbgefaaGreatDoor
