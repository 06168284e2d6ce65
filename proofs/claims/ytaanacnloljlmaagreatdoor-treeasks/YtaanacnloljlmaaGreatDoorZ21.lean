/- Texts joined: BoGNumberRow BoLNumberRow BoRT. -/
import Derived.Test.YtaanacnloljlmaaGreatDoorZ17
import Derived.Test.YtaanacnloljlmaaGreatDoorZ14
/- The contract of growNumberRow of a Book: three marks more behind each kept list. -/
namespace Go.Proofs.YtaanacnloljlmaaGreatDoor
open Go.RowKit Go.Maps

/-- The kept lists of the kind are marks. -/
def MkdNumberRow (es : List Ent) (X : Nat → List Value) : Prop := ∀ i x, es[i]? = some x → Mks (mkNumberRow x.n) 1 x.m (X i)
set_option maxRecDepth 100000 in
set_option maxHeartbeats 4000000 in
theorem growNumberRow_b (B b : Nat) (cnt : Int) (F : Nat → Value) (es : List Ent) (X : Nat → List Value) (w : World) (hb : w.heap[b]? = some (.cells (bookF cnt F) 70 (0, 0))) (h : Ke kdNumberRow B w (F 34) es X) (hB : B ≤ w.heap.size) (hN : es.length ≤ 1048576) (hes : ∀ x ∈ es, x.n ≤ 1048576 ∧ x.m ≤ 1048576) (hmk : MkdNumberRow es X) :
    Calls Tryz.prog 113 #[.pointer (some ⟨b, 0, none⟩)] w fun e w' => e = .returned (.tuple #[]) ∧ (∃ es' X', Ke kdNumberRow B w' (F 34) es' X' ∧ es'.length = es.length ∧ (∀ x ∈ es', x.n ≤ 1048576 ∧ x.m ≤ 1048579) ∧ MkdNumberRow es' X') ∧ Tf [31, 339] B w w' := by
  obtain ⟨i0, hi0, hz0, hz1, hz2⟩ := info_parts infoInts
  have c2 := book_cell hb (k := 34) (by decide) (by decide)
  obtain ⟨a, cap, hF⟩ := h.form
  rw [hF] at c2 h ⊢
  have HC : Hid (∀ w', Tf [31, 339] B w w' → w'.cell? ⟨b, 34, none⟩ = some (.slice a es.length cap)) := fun w' ht => by
    have := book_cell (ht.blk hb (by decide)) (k := 34) (by decide) (by decide)
    rw [hF] at this; exact this
  have HL : Hid (Ke kdNumberRow B w (.slice a es.length cap) es X ∧ MkdNumberRow es X ∧ ∀ (j : Nat) (x : Ent), es[j]? = some x → x.n ≤ 1048576 ∧ x.m ≤ 1048576) := ⟨h, hmk, fun j x hx => hes x (List.mem_of_getElem? hx)⟩
  have hNI : ((es.length : Nat) : Int) ≤ 1048576 := by omega
  clear hF h hes hb hN hmk
  obtain ⟨N, hN⟩ : ∃ N, N = es.length := ⟨_, rfl⟩
  rw [← hN] at c2 HC HL hNI ⊢
  have HN := hide hN
  clear hN
  go_enter Tryz.func113, Tryz.ntmps113
  go_wp2_with fail
  go_loopw [10] (fun iv wr => ∃ (i : Nat) (es' : List Ent) (X' : Nat → List Value), iv = .int .i64 (i : Int) ∧ i ≤ N ∧ Hid (Ke kdNumberRow B wr (.slice a N cap) es' X' ∧ es'.length = N ∧ MkdNumberRow es' X' ∧ (∀ (j : Nat) (x : Ent), es'[j]? = some x → x.n ≤ 1048576 ∧ x.m ≤ 1048576 + (if j < i then 3 else 0)) ∧ Tf [31, 339] B w wr)) (fun iv _ => (N - intOf iv).toNat)
  case atStart => exact ⟨0, es, X, rfl, by omega, ⟨(unhide HL).1, (unhide HN).symm, (unhide HL).2.1, fun j x hx => by simpa using (unhide HL).2.2 j x hx, Tf.refl _ _ _⟩⟩
  case round =>
    obtain ⟨i, es', X', rfl, hi, hst⟩ := hrel
    by_cases hin : i < N
    · have e2 := unhide HC wr (unhide hst).2.2.2.2
      obtain ⟨x0, hx0⟩ : ∃ x, es'[i]? = some x := ⟨_, List.getElem?_eq_getElem (by rw [(unhide hst).2.1]; exact hin)⟩
      obtain ⟨g, rfl, -⟩ := (unhide hst).1.entry hx0
      have hiN : (i : Int) < (N : Int) := by omega
      have hi0' : (0 : Int) ≤ (i : Int) := by omega
      have hst2 : Hid (Ke kdNumberRow B wr (.slice (some ⟨g, 0, none⟩) N cap) es' X' ∧ es'.length = N ∧ MkdNumberRow es' X' ∧ (∀ (j : Nat) (x : Ent), es'[j]? = some x → x.n ≤ 1048576 ∧ x.m ≤ 1048576 + (if j < i then 3 else if j = i then 0 else 0)) ∧ Tf [31, 339] B w wr) := by
        obtain ⟨h1, h2, h3, h4, h5⟩ := unhide hst
        exact ⟨h1, h2, h3, fun j x hx => by have := h4 j x hx; by_cases q : j < i <;> by_cases q2 : j = i <;> simp [q, q2] at this ⊢ <;> omega, h5⟩
      clear hx0 hst
      go_wp2_with fail
      go_loopw [4] (fun kv wq => ∃ (k : Nat) (es' : List Ent) (X' : Nat → List Value), kv = .int .i64 (k : Int) ∧ k ≤ 3 ∧ Hid (Ke kdNumberRow B wq (.slice (some ⟨g, 0, none⟩) N cap) es' X' ∧ es'.length = N ∧ MkdNumberRow es' X' ∧ (∀ (j : Nat) (x : Ent), es'[j]? = some x → x.n ≤ 1048576 ∧ x.m ≤ 1048576 + (if j < i then 3 else if j = i then k else 0)) ∧ Tf [31, 339] B w wq)) (fun kv _ => (3 - intOf kv).toNat)
      case atStart => exact ⟨0, es', X', rfl, by omega, hst2⟩
      case round =>
        clear hst2
        obtain ⟨k, eq, Xq, rfl, hk, hsq⟩ := hrel
        by_cases hk3 : k < 3
        · obtain ⟨hK, hlen, hmq, hbd, hTf⟩ := unhide hsq
          obtain ⟨x, hx⟩ : ∃ x, eq[i]? = some x := ⟨_, List.getElem?_eq_getElem (by rw [hlen]; exact hin)⟩
          obtain ⟨hxn, hxm⟩ := hbd i x hx
          have hxm2 : x.m ≤ 1048579 := by simp at hxm; omega
          obtain ⟨g', e', hBg, d1, d2, -, cur, hgc⟩ := hK.entry hx
          cases e'
          obtain ⟨p, cp, hxv⟩ := own_slice (hK.row i x hx)
          have hmx : x.m + 1 ≤ maxLen := by unfold maxLen; omega
          have hby : (x.m + 1) * 24 ≤ 140737488355328 := by omega
          have hBw : B ≤ wr.heap.size := Nat.le_trans hB hTf.size
          have HK : Hid (∀ w', Calls Tryz.prog 213 #[.int .i64 (x.n : Int)] w' fun e w'' => ∃ z, e = .returned (.slice (some ⟨z, 0, none⟩) (rlen x.n) (rlen x.n)) ∧ mkNumberRow x.n [.slice (some ⟨z, 0, none⟩) (rlen x.n) (rlen x.n)] ∧ Below w'.heap.size w' w'') := fun w' => markNumberRow_b x.n w' hxn
          have HA : Hid (∀ W, Below wr.heap.size wr W → W.cell? ⟨g, i * 2, none⟩ = some x.v ∧ W.ownsRow B 31 1 x.v x.m (Xq i) ∧ Ke kdNumberRow B W (.slice (some ⟨g, 0, none⟩) N cap) eq Xq ∧ B ≤ W.heap.size ∧ Tf [31, 339] B w W) := fun W hb => by
            have hK2 := hK.bw hb
            obtain ⟨g2, e2', -, d1', -⟩ := hK2.entry hx
            cases e2'
            exact ⟨d1', hK2.row i x hx, hK2, Nat.le_trans hBw hb.size, hTf.after hb hB⟩
          have HM := hide (And.intro hmx hby)
          have HS : Hid (∀ (v' : Value) z, mkNumberRow x.n [.slice (some ⟨z, 0, none⟩) (rlen x.n) (rlen x.n)] → (eq.set i ⟨v', x.n, x.m + 1⟩).length = N ∧ MkdNumberRow (eq.set i ⟨v', x.n, x.m + 1⟩) (fun j => if j = i then Xq i ++ [.slice (some ⟨z, 0, none⟩) (rlen x.n) (rlen x.n)] else Xq j) ∧ (∀ (j : Nat) (y : Ent), (eq.set i ⟨v', x.n, x.m + 1⟩)[j]? = some y → y.n ≤ 1048576 ∧ y.m ≤ 1048576 + (if j < i then 3 else if j = i then k + 1 else 0))) := fun v' z hm => by
            have hil : i < eq.length := by rw [hlen]; exact hin
            refine ⟨by simp [hlen], fun j y hy => ?_, fun j y hy => ?_⟩
            · by_cases q : j = i
              · subst q
                rw [List.getElem?_set_self hil] at hy
                cases hy
                simp only [if_true]
                exact (hmq j x hx).snoc rfl hm
              · rw [List.getElem?_set_ne (Ne.symm q)] at hy
                simp only [q, if_false]
                exact hmq j y hy
            · by_cases q : j = i
              · subst q
                rw [List.getElem?_set_self hil] at hy
                cases hy
                simp at hxm ⊢
                omega
              · rw [List.getElem?_set_ne (Ne.symm q)] at hy
                have := hbd j y hy
                simp only [q, if_false] at this ⊢
                exact this
          have bA : Below wr.heap.size wr wr.drew := (Below.refl _ _).drew
          obtain ⟨v, hv⟩ : ∃ v, v = x.v := ⟨_, rfl⟩
          have hxv2 : v = .slice p x.m cp := by rw [hv]; exact hxv
          rw [← hv] at d1 HA
          have HV := hide hv
          have HX := hide hx
          have hkI : (k : Int) < 3 := by omega
          have e2q := unhide HC wr hTf
          subst hxv2
          have HBw := hide hBw
          obtain ⟨xm, hxm3⟩ : ∃ xm, xm = x.m := ⟨_, rfl⟩
          rw [← hxm3] at d1 HA HM HV
          have HXM := hide hxm3
          clear hK hlen hmq hbd hTf hx hxn hxm hxm2 hBg hgc hxv hmx hby hBw hv hsq hxm3
          go_wp2_with fail
          go_region_law (first | (refine step_app rfl (.tmp 27) (.tmp 33) 76 rfl B 31 i0 (.slice none 0 0) 1 24 Tryz.underlying76 hi0 hz0 hz1 hz2 rfl (by decide) (.slice p xm cp) xm (Xq i) (by simp [Act.eval]) (World.ownsRow.alloc X1.2.1 _) ⟨z1.heap.size, 0, none⟩ 1 1 [.slice (some ⟨z, 0, none⟩) (rlen x.n) (rlen x.n)] (by simp [Act.eval]) rfl (cells_newB1 z1 _ _) (oneNumberRow z) (unhide HM).1 (unhide HM).2 (Nat.le_trans X1.2.2.2.1 (by simp)) ?_; intro v' w1 hown' hgrow hat; have X3 := (X1.2.2.1).grown (unhide HX) ((Fr.refl [] z1).alloc _) (v' := v') (news := [.slice (some ⟨z, 0, none⟩) (rlen x.n) (rlen x.n)]) (by rw [← unhide HXM]; exact hown') (by rw [← unhide HV]; exact hgrow) (by rw [← unhide HV]; exact hat) X1.2.2.2.1 (by decide); obtain ⟨k1, k2, k3, k4⟩ := X3; rw [← unhide HV] at k3; obtain ⟨gv, cpv, rfl⟩ := row_formB hown') | (go_simp; go_wp2_with (first | (go_at_call 213; refine (unhide HK _).mono ?_; rintro e z1 ⟨z, rfl, hm, b1⟩; have b2 := bw_tr bA b1; have X1 := unhide HA _ b2; have x1 := X1.1; have X2 := unhide HA _ (bw_tr b2 (bwA z1 (.cells #[.slice (some ⟨z, 0, none⟩) (rlen x.n) (rlen x.n)] 31))); have x2 := X2.1))))
          all_goals
            have hz := unhide HS (.slice (some ⟨gv, 0, none⟩) (xm + 1) cpv) z hm
            obtain ⟨E2, X2', HZ⟩ : ∃ E2 X2', Hid (Ke kdNumberRow B ((w1).setCell ⟨g, i * 2, none⟩ (.slice (some ⟨gv, 0, none⟩) (xm + 1) cpv)) (.slice (some ⟨g, 0, none⟩) N cap) E2 X2' ∧ E2.length = N ∧ MkdNumberRow E2 X2' ∧ (∀ (j : Nat) (y : Ent), E2[j]? = some y → y.n ≤ 1048576 ∧ y.m ≤ 1048576 + (if j < i then 3 else if j = i then k + 1 else 0)) ∧ Tf [31, 339] B w ((w1).setCell ⟨g, i * 2, none⟩ (.slice (some ⟨gv, 0, none⟩) (xm + 1) cpv))) :=
              ⟨eq.set i ⟨.slice (some ⟨gv, 0, none⟩) (xm + 1) cpv, x.n, x.m + 1⟩, fun j => if j = i then Xq i ++ [.slice (some ⟨z, 0, none⟩) (rlen x.n) (rlen x.n)] else Xq j, k1, hz.1, hz.2.1, hz.2.2, X1.2.2.2.2.trans k2⟩
            clear k1 k2 X1 X2 hm hz
            go_wp2_with fail
            go_roundw
            case rel => exact ⟨k + 1, E2, X2', by go_num, by omega, HZ⟩
            case measure => simp only [intOf]; omega
        · obtain rfl : k = 3 := by omega
          have HX3 : Hid (Ke kdNumberRow B wr (.slice (some ⟨g, 0, none⟩) N cap) eq Xq ∧ eq.length = N ∧ MkdNumberRow eq Xq ∧ (∀ (j : Nat) (x : Ent), eq[j]? = some x → x.n ≤ 1048576 ∧ x.m ≤ 1048576 + (if j < i + 1 then 3 else 0)) ∧ Tf [31, 339] B w wr) := by
            obtain ⟨h1, h2, h3, h4, h5⟩ := unhide hsq
            refine ⟨h1, h2, h3, fun j x hx => ?_, h5⟩
            have := h4 j x hx
            refine ⟨this.1, Nat.le_trans this.2 (Nat.add_le_add_left ?_ _)⟩
            by_cases q : j < i
            · rw [if_pos q, if_pos (by omega)]; exact Nat.le_refl _
            · by_cases q2 : j = i
              · rw [if_neg q, if_pos q2, if_pos (by omega)]; exact Nat.le_refl _
              · rw [if_neg q, if_neg q2]; omega
          clear hsq
          go_wp2_with fail
          go_roundw
          case rel => exact ⟨i + 1, eq, Xq, by go_num, by omega, HX3⟩
          case measure => simp only [intOf]; omega
    · obtain rfl : i = N := by omega
      go_wp2_with fail
      go_end0
      obtain ⟨h1, h2, h3, h4, h5⟩ := unhide hst
      refine ⟨rfl, ⟨es', X', h1, h2, fun x hx => ?_, h3⟩, h5⟩
      obtain ⟨j, hj⟩ := List.mem_iff_getElem?.1 hx
      have := h4 j x hj
      refine ⟨this.1, Nat.le_trans this.2 ?_⟩
      split <;> omega
end Go.Proofs.YtaanacnloljlmaaGreatDoor

/- The contract of lookNumberRow of a Book: marks are found. -/
namespace Go.Proofs.YtaanacnloljlmaaGreatDoor
open Go.RowKit Go.Maps

theorem isNumberRow_b (n : Nat) (z : Nat) (_hz : mkNumberRow n [.slice (some ⟨z, 0, none⟩) (rlen n) (rlen n)]) (w : World) (h : n ≤ 1048576) : Calls Tryz.prog 244 #[.slice (some ⟨z, 0, none⟩) (rlen n) (rlen n), .int .i64 (n : Int)] w fun e w' => e = .returned (.bool true) ∧ Below w.heap.size w w' := by
  exact (isNumberRow_any n z w (by omega))
set_option maxRecDepth 100000 in
set_option maxHeartbeats 4000000 in
theorem lookNumberRow_b (B b : Nat) (cnt : Int) (F : Nat → Value) (es : List Ent) (X : Nat → List Value) (w : World) (hb : w.heap[b]? = some (.cells (bookF cnt F) 70 (0, 0))) (h : Ke kdNumberRow B w (F 34) es X) (hN : es.length ≤ 1048576) (hes : ∀ x ∈ es, x.n ≤ 1048576 ∧ x.m ≤ 1048579) (hmk : MkdNumberRow es X) :
    Calls Tryz.prog 147 #[.pointer (some ⟨b, 0, none⟩)] w fun e w' => e = .returned (.bool true) ∧ Below w.heap.size w w' := by
  have c2 := book_cell hb (k := 34) (by decide) (by decide)
  obtain ⟨a, cap, hF⟩ := h.form
  rw [hF] at c2 h
  have HL := hide (And.intro h (And.intro hes hmk))
  have hNI : ((es.length : Nat) : Int) ≤ 1048576 := by omega
  clear hF h hes hb hN hmk
  obtain ⟨N, hN⟩ : ∃ N, N = es.length := ⟨_, rfl⟩
  rw [← hN] at c2 HL hNI
  have HN := hide hN
  clear hN
  go_enter Tryz.func147, Tryz.ntmps147
  go_wp2_with fail
  go_loopw [12] (fun iv wr => ∃ i : Nat, iv = .int .i64 (i : Int) ∧ i ≤ N ∧ Below w.heap.size w wr) (fun iv _ => (N - intOf iv).toNat)
  case atStart => exact ⟨0, rfl, by omega, Below.refl _ _⟩
  case round =>
    obtain ⟨i, rfl, hi, hbel⟩ := hrel
    by_cases hin : i < N
    · obtain ⟨x, hx⟩ : ∃ x, es[i]? = some x := ⟨_, List.getElem?_eq_getElem (by rw [← unhide HN]; exact hin)⟩
      have hK := (unhide HL).1.bw hbel
      obtain ⟨hxn, hxm⟩ := (unhide HL).2.1 x (List.mem_of_getElem? hx)
      have hmk := (unhide HL).2.2 i x hx
      obtain ⟨g, rfl, hBg, d1, d2, -, -⟩ := hK.entry hx
      have hr := hK.row i x hx
      obtain ⟨p, cp, hxv⟩ := own_slice hr
      rw [hxv] at d1 hr
      have hiN : (i : Int) < (N : Int) := by omega
      have hi0 : (0 : Int) ≤ (i : Int) := by omega
      have hMI : ((x.m : Nat) : Int) ≤ 1048579 := by omega
      obtain ⟨M, hM⟩ : ∃ M, M = x.m := ⟨_, rfl⟩
      obtain ⟨n, hn⟩ : ∃ n, n = x.n := ⟨_, rfl⟩
      rw [← hM] at d1 hMI hr hmk
      rw [← hn] at d2 hmk hxn
      have HV := hide (And.intro hmk hr)
      have HK : Hid (∀ z, mkNumberRow n [.slice (some ⟨z, 0, none⟩) (rlen n) (rlen n)] → ∀ w', Calls Tryz.prog 244 #[.slice (some ⟨z, 0, none⟩) (rlen n) (rlen n), .int .i64 (n : Int)] w' fun e w'' => e = .returned (.bool true) ∧ Below w'.heap.size w' w'') := fun z hz w' => isNumberRow_b n z hz w' hxn
      have start : Hid (Below wr.heap.size wr (wr.alloc (.cells #[.slice p M cp, .int .i64 (n : Int)] 339)) ∧ (wr.alloc (.cells #[.slice p M cp, .int .i64 (n : Int)] 339)).cell? ⟨wr.heap.size, 1, none⟩ = some (.int .i64 (n : Int))) := ⟨bwA _ _, cell_of_blk (heap_alloc_new _ _) rfl⟩
      have HB := hide hbel
      clear hM hn hmk hr hK hx hxn hxm hBg hxv hbel
      go_wp2_with fail
      rename World => wo
      go_loopw [19] (fun kv wq => ∃ k : Nat, kv = .int .i64 (k : Int) ∧ k ≤ M ∧ Hid (Below wo.heap.size wo wq ∧ wq.cell? ⟨wo.heap.size, 1, none⟩ = some (.int .i64 (n : Int)))) (fun kv _ => (M - intOf kv).toNat)
      case atStart => exact ⟨0, rfl, by omega, start⟩
      case round =>
        clear start
        obtain ⟨k, rfl, hk, HR⟩ := hrel
        by_cases hkM : k < M
        · have hkM' : (k : Int) < (M : Int) := by omega
          have hk0 : (0 : Int) ≤ (k : Int) := by omega
          obtain ⟨hmk, hr⟩ := unhide HV
          obtain ⟨l, hlen, hml, hl⟩ := hmk.get hkM
          have hr2 := own_keep hr (w' := wr) (fun q hq => (unhide HR).1.block q (World.ownsRow.lt hr q hq).2)
          obtain ⟨gv, cp', e1, -⟩ := own_open hr (by omega)
          simp only [Value.slice.injEq] at e1
          obtain ⟨e1a, -, -⟩ := e1
          subst e1a
          obtain ⟨z, hz⟩ : ∃ z, l = [.slice (some ⟨z, 0, none⟩) (rlen n) (rlen n)] := id hml
          rw [hz] at hl hml
          have t0 : wr.cell? ⟨gv, k, none⟩ = some (.slice (some ⟨z, 0, none⟩) (rlen n) (rlen n)) := own_cell hr2 rfl (by simpa using hl 0 _ rfl)
          have c1 := (unhide HR).2
          have XX : Hid (∀ W, Below wr.heap.size wr W → Below wo.heap.size wo W ∧ W.cell? ⟨wo.heap.size, 1, none⟩ = some (.int .i64 (n : Int))) := fun W hb => ⟨bw_tr (unhide HR).1 hb, by rw [World.cell?_of_block (w := wr) (hb.block _ (lt_of_cell c1))]; exact c1⟩
          have hb1 : Below wr.heap.size wr wr := Below.refl _ _
          have KI := hide (unhide HK z hml wr)
          have hwl := lt_of_cell c1
          clear hmk hr hlen hml hl hr2 hz HR
          go_wp2_with fail
          refine (unhide KI).mono ?_
          rintro e w5 ⟨rfl, b5⟩
          have X5 := hide (unhide XX _ (bw_tr hb1 b5))
          clear KI b5 XX c1 t0
          go_wp2_with fail
          go_roundw
          case rel => exact ⟨k + 1, by go_num, by omega, X5⟩
          case measure => simp only [intOf]; omega
        · obtain rfl : k = M := by omega
          have hb9 := bw_tr (unhide HB) (unhide HR).1
          clear HR
          go_wp2_with fail
          go_roundw
          case rel => exact ⟨i + 1, by go_num, by omega, hb9⟩
          case measure => simp only [intOf]; omega
    · obtain rfl : i = N := by omega
      go_wp2_with fail
      go_ret
      exact ⟨rfl, hbel⟩
end Go.Proofs.YtaanacnloljlmaaGreatDoor

/- A Book that keeps rows of rows besides: the structure that Apart asks. -/
namespace Go.Proofs.YtaanacnloljlmaaGreatDoor
open Go.RowKit Go.Maps
end Go.Proofs.YtaanacnloljlmaaGreatDoor
