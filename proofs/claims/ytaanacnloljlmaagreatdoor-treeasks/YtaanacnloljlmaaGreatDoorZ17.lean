/- Texts joined: BoFNode BoGNode BoLNode BoT BoFNumberRow. -/
import Derived.Test.YtaanacnloljlmaaGreatDoorZ14
import Derived.Test.YtaanacnloljlmaaGreatDoorTtE
/- The contract of fillNode of a Book: each kept list is marks then. -/
namespace Go.Proofs.YtaanacnloljlmaaGreatDoor
open Go.RowKit Go.Maps

theorem markNode_b (n : Nat) (w : World) (h : n ≤ 1048576) : Calls Tryz.prog 173 #[.int .i64 (n : Int)] w fun e w' => ∃ z, e = .returned (.agg #[.int .i64 z, .int .i64 0, .int .i64 0, .slice none 0 0]) ∧ mkNode n [.int .i64 z, .int .i64 0, .int .i64 0, .slice none 0 0] ∧ Below w.heap.size w w' := (markNode_any n w (by omega)).mono (fun e w' h => ⟨mkI n, h.1, rfl, h.2⟩)
set_option maxRecDepth 100000 in
set_option maxHeartbeats 4000000 in
theorem fillNode_b (B b : Nat) (cnt : Int) (F : Nat → Value) (es : List Ent) (X : Nat → List Value) (w : World) (hb : w.heap[b]? = some (.cells (bookF cnt F) 70 (0, 0))) (h : Ke kdNode B w (F 19) es X) (hB : B ≤ w.heap.size) (hN : es.length ≤ 1048576) (hes : ∀ x ∈ es, x.n ≤ 1048576 ∧ x.m ≤ 1048576) :
    Calls Tryz.prog 65 #[.pointer (some ⟨b, 0, none⟩)] w fun e w' => e = .returned (.tuple #[]) ∧ (∃ X', Ke kdNode B w' (F 19) es X' ∧ ∀ i x, es[i]? = some x → Mks (mkNode x.n) 4 x.m (X' i)) ∧ Tf [88] B w w' := by
  have c2 := book_cell hb (k := 19) (by decide) (by decide)
  obtain ⟨a, cap, hF⟩ := h.form
  rw [hF] at c2 h ⊢
  have HC : Hid (∀ w', Tf [88] B w w' → w'.cell? ⟨b, 19, none⟩ = some (.slice a es.length cap)) := fun w' ht => by
    have := book_cell (ht.blk hb (by decide)) (k := 19) (by decide) (by decide)
    rw [hF] at this; exact this
  have HL := hide (And.intro h hes)
  have hNI : ((es.length : Nat) : Int) ≤ 1048576 := by omega
  clear hF h hes hb hN
  obtain ⟨N, hN⟩ : ∃ N, N = es.length := ⟨_, rfl⟩
  rw [← hN] at c2 HC HL hNI ⊢
  have HN := hide hN
  clear hN
  go_enter Tryz.func65, Tryz.ntmps65
  go_wp2_with fail
  go_loopw [10] (fun iv wr => ∃ (i : Nat) (X' : Nat → List Value), iv = .int .i64 (i : Int) ∧ i ≤ N ∧ Hid (Ke kdNode B wr (.slice a N cap) es X' ∧ (∀ j x, es[j]? = some x → j < i → Mks (mkNode x.n) 4 x.m (X' j)) ∧ Tf [88] B w wr)) (fun iv _ => (N - intOf iv).toNat)
  case atStart => exact ⟨0, X, rfl, by omega, ⟨(unhide HL).1, fun j x _ hj => by omega, Tf.refl _ _ _⟩⟩
  case round =>
    obtain ⟨i, X', rfl, hi, hst⟩ := hrel
    by_cases hin : i < N
    · obtain ⟨x, hx⟩ : ∃ x, es[i]? = some x := ⟨_, List.getElem?_eq_getElem (by rw [← unhide HN]; exact hin)⟩
      obtain ⟨hxn, hxm⟩ := (unhide HL).2 x (List.mem_of_getElem? hx)
      obtain ⟨g, rfl, hBg, d1, d2, -, -⟩ := (unhide hst).1.entry hx
      obtain ⟨p, cp, hxv⟩ := own_slice ((unhide hst).1.row i x hx)
      rw [hxv] at d1
      have e2 := unhide HC wr (unhide hst).2.2
      have hiN : (i : Int) < (N : Int) := by omega
      have hi0 : (0 : Int) ≤ (i : Int) := by omega
      have K := hide (fun w' => markNode_b x.n w' hxn)
      have HX := hide (And.intro hx hxv)
      have hMI : ((x.m : Nat) : Int) ≤ 1048576 := by omega
      obtain ⟨M, hM⟩ : ∃ M, M = x.m := ⟨_, rfl⟩
      obtain ⟨n, hn⟩ : ∃ n, n = x.n := ⟨_, rfl⟩
      have hst2 : Hid (Ke kdNode B wr (.slice (some ⟨g, 0, none⟩) N cap) es X' ∧ (∀ j y, es[j]? = some y → j < i → Mks (mkNode y.n) 4 y.m (X' j)) ∧ (∃ pre rest, X' i = pre ++ rest ∧ Mks (mkNode n) 4 0 pre) ∧ Tf [88] B w wr) := ⟨(unhide hst).1, (unhide hst).2.1, ⟨[], X' i, rfl, Mks.nil _ _⟩, (unhide hst).2.2⟩
      rw [← hM] at d1 HX hMI
      rw [← hn] at d2 K
      have HMn := hide (And.intro hM hn)
      clear hx hxn hxm hBg hxv hst hM hn
      go_wp2_with fail
      go_loopw [24] (fun kv wq => ∃ (k : Nat) (X' : Nat → List Value), kv = .int .i64 (k : Int) ∧ k ≤ M ∧ Hid (Ke kdNode B wq (.slice (some ⟨g, 0, none⟩) N cap) es X' ∧ (∀ j y, es[j]? = some y → j < i → Mks (mkNode y.n) 4 y.m (X' j)) ∧ (∃ pre rest, X' i = pre ++ rest ∧ Mks (mkNode n) 4 k pre) ∧ Tf [88] B w wq)) (fun kv _ => (M - intOf kv).toNat)
      case atStart => exact ⟨0, X', rfl, by omega, hst2⟩
      case round =>
        clear hst2
        obtain ⟨k, Xq, rfl, hk, hsq⟩ := hrel
        by_cases hkM : k < M
        · obtain ⟨hK, hmk, ⟨pre, rest, hXi, hpre⟩, hTf⟩ := unhide hsq
          obtain ⟨hx, hxv⟩ := unhide HX
          obtain ⟨hMe, hne_⟩ := unhide HMn
          have hr := hK.row i x hx
          rw [hXi] at hr
          have hlen : (pre ++ rest).length = x.m * 4 := hr.1
          have hpl := hpre.len
          have hrl : 4 ≤ rest.length := by simp at hlen; omega
          obtain ⟨gv, cp', e1, hgl, -, -⟩ := own_open hr (by omega)
          rw [hxv] at e1
          simp only [Value.slice.injEq] at e1
          obtain ⟨e1a, -, -⟩ := e1
          subst e1a
          rw [hxv] at hr
          obtain ⟨y0, hy0⟩ : ∃ y, (pre ++ rest)[k * 4]? = some y := ⟨_, List.getElem?_eq_getElem (by omega)⟩
          obtain ⟨y1, hy1⟩ : ∃ y, (pre ++ rest)[k * 4 + 1]? = some y := ⟨_, List.getElem?_eq_getElem (by omega)⟩
          obtain ⟨y2, hy2⟩ : ∃ y, (pre ++ rest)[k * 4 + 2]? = some y := ⟨_, List.getElem?_eq_getElem (by omega)⟩
          obtain ⟨y3, hy3⟩ : ∃ y, (pre ++ rest)[k * 4 + 3]? = some y := ⟨_, List.getElem?_eq_getElem (by omega)⟩
          have yc0 := own_cell hr rfl hy0; have yc1 := own_cell hr rfl hy1; have yc2 := own_cell hr rfl hy2; have yc3 := own_cell hr rfl hy3
          obtain ⟨g', e', hBg, d1', d2', -, cur, hgc⟩ := hK.entry hx
          cases e'
          rw [hxv] at d1'
          rw [← hne_] at d2'
          obtain ⟨curv, hvc⟩ := own_kind hr (k := gv) rfl
          have hBv : B ≤ gv := (World.ownsRow.lt hr gv rfl).1
          have hne : g ≠ gv := by rintro rfl; rw [hgc] at hvc; simp at hvc; exact absurd hvc.2 (by decide)
          have S0 : wr.drew.cell? ⟨g, i * 2, none⟩ = some (.slice (some ⟨gv, 0, none⟩) M cp) ∧ wr.drew.cell? ⟨g, i * 2 + 1, none⟩ = some (.int .i64 (n : Int)) := ⟨d1', d2'⟩
          have HS1 : Hid (∀ z1, Below wr.drew.heap.size wr.drew z1 → z1.cell? ⟨g, i * 2, none⟩ = some (.slice (some ⟨gv, 0, none⟩) M cp) ∧ z1.cell? ⟨g, i * 2 + 1, none⟩ = some (.int .i64 (n : Int))) := fun z1 b1 => by
            have hgl2 := lt_of_blk hgc
            exact ⟨by rw [b1.cell (p := ⟨g, i * 2, none⟩) hgl2]; exact S0.1, by rw [b1.cell (p := ⟨g, i * 2 + 1, none⟩) hgl2]; exact S0.2⟩
          have hfz : Hid (∀ z1, Below wr.drew.heap.size wr.drew z1 → ∀ j, z1.frozen? ⟨gv, j, none⟩ = false) := fun z1 b1 j => frozen_of_blk0 (cs := curv) (t := 88) (by rw [b1.block gv hgl]; exact hvc) j
          have HS : Hid (∀ z1 z, Below wr.drew.heap.size wr.drew z1 → mkNode n [.int .i64 z, .int .i64 0, .int .i64 0, .slice none 0 0] → ∃ X2 : Nat → List Value, Ke kdNode B ((((z1.setCell ⟨gv, k * 4, none⟩ (.int .i64 z)).setCell ⟨gv, k * 4 + 1, none⟩ (.int .i64 0)).setCell ⟨gv, k * 4 + 2, none⟩ (.int .i64 0)).setCell ⟨gv, k * 4 + 3, none⟩ (.slice none 0 0)) (.slice (some ⟨g, 0, none⟩) N cap) es X2 ∧ (∀ j y, es[j]? = some y → j < i → Mks (mkNode y.n) 4 y.m (X2 j)) ∧ (∃ pre' rest', X2 i = pre' ++ rest' ∧ Mks (mkNode n) 4 (k + 1) pre') ∧ Tf [88] B w ((((z1.setCell ⟨gv, k * 4, none⟩ (.int .i64 z)).setCell ⟨gv, k * 4 + 1, none⟩ (.int .i64 0)).setCell ⟨gv, k * 4 + 2, none⟩ (.int .i64 0)).setCell ⟨gv, k * 4 + 3, none⟩ (.slice none 0 0))) := fun z1 z b1 hm => by
            have hr1 : z1.ownsRow B 88 4 (.slice (some ⟨gv, 0, none⟩) M cp) x.m (pre ++ rest) := own_keep hr (fun q hq => by rw [b1.block q (World.ownsRow.lt hr q hq).2]; rfl)
            have o0 := own_set hr1 (g := gv) rfl (j := k * 4) (.int .i64 z)
            have o1 := own_set o0 (g := gv) rfl (j := k * 4 + 1) (.int .i64 0)
            have o2 := own_set o1 (g := gv) rfl (j := k * 4 + 2) (.int .i64 0)
            have o3 := own_set o2 (g := gv) rfl (j := k * 4 + 3) (.slice none 0 0)
            rw [set4_at _ _ _ _ (by rw [hpl]) hrl] at o3
            have hf : Fr [gv] z1 ((((z1.setCell ⟨gv, k * 4, none⟩ (.int .i64 z)).setCell ⟨gv, k * 4 + 1, none⟩ (.int .i64 0)).setCell ⟨gv, k * 4 + 2, none⟩ (.int .i64 0)).setCell ⟨gv, k * 4 + 3, none⟩ (.slice none 0 0)) := fr_set4 z1 gv (k * 4) (.int .i64 z) (.int .i64 0) (.int .i64 0) (.slice none 0 0)
            have hK1 : Ke kdNode B z1 (.slice (some ⟨g, 0, none⟩) N cap) es Xq := (hK.bw (w' := wr.drew) ⟨rfl, rfl, rfl, Nat.le_refl _, fun _ _ => rfl⟩).bw b1
            have hvc1 : z1.heap[gv]? = some (.cells curv 88 (0, 0)) := by rw [b1.block gv hgl]; exact hvc
            have hT1 : Tf [88] B w z1 := (hTf.drew).after b1 hB
            refine ⟨(fun j => if j = i then (pre ++ [.int .i64 z, .int .i64 0, .int .i64 0, .slice none 0 0]) ++ rest.drop 4 else Xq j), hK1.put hx (by rw [hxv]; exact hf) (by rw [hxv]; exact o3) (by decide), fun j y hy hj => ?_, ⟨pre ++ [.int .i64 z, .int .i64 0, .int .i64 0, .slice none 0 0], rest.drop 4, by simp, hpre.snoc rfl hm⟩, hT1.fr1 hf hvc1 (by simp) hBv⟩
            have : ¬ j = i := by omega
            simp only [this, if_false]
            exact hmk j y hy hj
          have hkM' : (k : Int) < (M : Int) := by omega
          have hk0 : (0 : Int) ≤ (k : Int) := by omega
          have e2q := unhide HC wr hTf
          have HGL := hide hgl
          clear hK hmk hXi hpre hTf hx hxv hMe hne_ hr hlen hpl hrl d1' d2' hgc hvc hBv hBg hsq hy0 hy1 hy2 hy3
          go_wp2_with fail
          first
          | go_region_held3 (fun w' : World => w'.cell? ⟨g, i * 2, none⟩ = some (.slice (some ⟨gv, 0, none⟩) M cp) ∧ w'.cell? ⟨g, i * 2 + 1, none⟩ = some (.int .i64 (n : Int))) (first | with_reducible exact S0 | with_reducible exact S1 | exact ⟨by rw [cell_set_other hne, cell_set_other hne, cell_set_other hne, cell_set_other hne]; exact S1.1, by rw [cell_set_other hne, cell_set_other hne, cell_set_other hne, cell_set_other hne]; exact S1.2⟩) (first
              | (go_at_call 173; refine (unhide K _).mono ?_; rintro e z1 ⟨z, rfl, hm, b1⟩; have S1 := unhide HS1 z1 b1; have hfz1 := unhide hfz z1 b1; have hgl := unhide HGL; have u0 : z1.cell? ⟨gv, k * 4, none⟩ = some y0 := (by rw [b1.cell (p := ⟨gv, k * 4, none⟩) hgl]; exact yc0); have u1 : z1.cell? ⟨gv, k * 4 + 1, none⟩ = some y1 := (by rw [b1.cell (p := ⟨gv, k * 4 + 1, none⟩) hgl]; exact yc1); have u2 : z1.cell? ⟨gv, k * 4 + 2, none⟩ = some y2 := (by rw [b1.cell (p := ⟨gv, k * 4 + 2, none⟩) hgl]; exact yc2); have u3 : z1.cell? ⟨gv, k * 4 + 3, none⟩ = some y3 := (by rw [b1.cell (p := ⟨gv, k * 4 + 3, none⟩) hgl]; exact yc3); have v0 := hfz1 (k * 4); have v1 := hfz1 (k * 4 + 1); have v2 := hfz1 (k * 4 + 2); have v3 := hfz1 (k * 4 + 3)) | fail)
          | fail
          all_goals
            obtain ⟨X2, HZ⟩ := unhide HS z1 z b1 hm
            have HZ2 := hide HZ
            clear S1 hfz1 hm b1 HZ
            go_wp2_with fail
            go_roundw
            case rel => exact ⟨k + 1, X2, by go_num, by omega, HZ2⟩
            case measure => simp only [intOf]; omega
        · obtain rfl : k = M := by omega
          have HX3 : Hid (Ke kdNode B wr (.slice (some ⟨g, 0, none⟩) N cap) es Xq ∧ (∀ j x, es[j]? = some x → j < i + 1 → Mks (mkNode x.n) 4 x.m (Xq j)) ∧ Tf [88] B w wr) := by
            obtain ⟨hK, hmk, ⟨pre, rest, hXi, hpre⟩, hTf⟩ := unhide hsq
            refine ⟨hK, fun j y hy hj => ?_, hTf⟩
            rcases Nat.lt_or_ge j i with c | c
            · exact hmk j y hy c
            · obtain rfl : j = i := by omega
              obtain ⟨hx, -⟩ := unhide HX
              rw [hx] at hy
              cases hy
              have hr := hK.row j x hx
              rw [hXi] at hr
              have hlen : (pre ++ rest).length = x.m * 4 := hr.1
              have hpl := hpre.len
              obtain ⟨hMe, hne_⟩ := unhide HMn
              have : rest = [] := List.eq_nil_of_length_eq_zero (by simp at hlen; rw [hMe] at hpl; omega)
              subst this
              rw [hXi, List.append_nil, ← hMe, ← hne_]
              exact hpre
          clear hsq
          go_wp2_with fail
          go_roundw
          case rel => exact ⟨i + 1, Xq, by go_num, by omega, HX3⟩
          case measure => simp only [intOf]; omega
    · obtain rfl : i = N := by omega
      go_wp2_with fail
      go_end0
      refine ⟨rfl, ⟨X', (unhide hst).1, fun j x hx => (unhide hst).2.1 j x hx ?_⟩, (unhide hst).2.2⟩
      rw [unhide HN]; exact (List.getElem?_eq_some_iff.1 hx).1
end Go.Proofs.YtaanacnloljlmaaGreatDoor

/- The contract of growNode of a Book: three marks more behind each kept list. -/
namespace Go.Proofs.YtaanacnloljlmaaGreatDoor
open Go.RowKit Go.Maps

/-- The kept lists of the kind are marks. -/
def MkdNode (es : List Ent) (X : Nat → List Value) : Prop := ∀ i x, es[i]? = some x → Mks (mkNode x.n) 4 x.m (X i)
set_option maxRecDepth 100000 in
set_option maxHeartbeats 4000000 in
theorem growNode_b (B b : Nat) (cnt : Int) (F : Nat → Value) (es : List Ent) (X : Nat → List Value) (w : World) (hb : w.heap[b]? = some (.cells (bookF cnt F) 70 (0, 0))) (h : Ke kdNode B w (F 19) es X) (hB : B ≤ w.heap.size) (hN : es.length ≤ 1048576) (hes : ∀ x ∈ es, x.n ≤ 1048576 ∧ x.m ≤ 1048576) (hmk : MkdNode es X) :
    Calls Tryz.prog 98 #[.pointer (some ⟨b, 0, none⟩)] w fun e w' => e = .returned (.tuple #[]) ∧ (∃ es' X', Ke kdNode B w' (F 19) es' X' ∧ es'.length = es.length ∧ (∀ x ∈ es', x.n ≤ 1048576 ∧ x.m ≤ 1048579) ∧ MkdNode es' X') ∧ Tf [88, 237] B w w' := by
  obtain ⟨i0, hi0, hz0, hz1, hz2⟩ := info_parts infoNode
  have c2 := book_cell hb (k := 19) (by decide) (by decide)
  obtain ⟨a, cap, hF⟩ := h.form
  rw [hF] at c2 h ⊢
  have HC : Hid (∀ w', Tf [88, 237] B w w' → w'.cell? ⟨b, 19, none⟩ = some (.slice a es.length cap)) := fun w' ht => by
    have := book_cell (ht.blk hb (by decide)) (k := 19) (by decide) (by decide)
    rw [hF] at this; exact this
  have HL : Hid (Ke kdNode B w (.slice a es.length cap) es X ∧ MkdNode es X ∧ ∀ (j : Nat) (x : Ent), es[j]? = some x → x.n ≤ 1048576 ∧ x.m ≤ 1048576) := ⟨h, hmk, fun j x hx => hes x (List.mem_of_getElem? hx)⟩
  have hNI : ((es.length : Nat) : Int) ≤ 1048576 := by omega
  clear hF h hes hb hN hmk
  obtain ⟨N, hN⟩ : ∃ N, N = es.length := ⟨_, rfl⟩
  rw [← hN] at c2 HC HL hNI ⊢
  have HN := hide hN
  clear hN
  go_enter Tryz.func98, Tryz.ntmps98
  go_wp2_with fail
  go_loopw [10] (fun iv wr => ∃ (i : Nat) (es' : List Ent) (X' : Nat → List Value), iv = .int .i64 (i : Int) ∧ i ≤ N ∧ Hid (Ke kdNode B wr (.slice a N cap) es' X' ∧ es'.length = N ∧ MkdNode es' X' ∧ (∀ (j : Nat) (x : Ent), es'[j]? = some x → x.n ≤ 1048576 ∧ x.m ≤ 1048576 + (if j < i then 3 else 0)) ∧ Tf [88, 237] B w wr)) (fun iv _ => (N - intOf iv).toNat)
  case atStart => exact ⟨0, es, X, rfl, by omega, ⟨(unhide HL).1, (unhide HN).symm, (unhide HL).2.1, fun j x hx => by simpa using (unhide HL).2.2 j x hx, Tf.refl _ _ _⟩⟩
  case round =>
    obtain ⟨i, es', X', rfl, hi, hst⟩ := hrel
    by_cases hin : i < N
    · have e2 := unhide HC wr (unhide hst).2.2.2.2
      obtain ⟨x0, hx0⟩ : ∃ x, es'[i]? = some x := ⟨_, List.getElem?_eq_getElem (by rw [(unhide hst).2.1]; exact hin)⟩
      obtain ⟨g, rfl, -⟩ := (unhide hst).1.entry hx0
      have hiN : (i : Int) < (N : Int) := by omega
      have hi0' : (0 : Int) ≤ (i : Int) := by omega
      have hst2 : Hid (Ke kdNode B wr (.slice (some ⟨g, 0, none⟩) N cap) es' X' ∧ es'.length = N ∧ MkdNode es' X' ∧ (∀ (j : Nat) (x : Ent), es'[j]? = some x → x.n ≤ 1048576 ∧ x.m ≤ 1048576 + (if j < i then 3 else if j = i then 0 else 0)) ∧ Tf [88, 237] B w wr) := by
        obtain ⟨h1, h2, h3, h4, h5⟩ := unhide hst
        exact ⟨h1, h2, h3, fun j x hx => by have := h4 j x hx; by_cases q : j < i <;> by_cases q2 : j = i <;> simp [q, q2] at this ⊢ <;> omega, h5⟩
      clear hx0 hst
      go_wp2_with fail
      go_loopw [4] (fun kv wq => ∃ (k : Nat) (es' : List Ent) (X' : Nat → List Value), kv = .int .i64 (k : Int) ∧ k ≤ 3 ∧ Hid (Ke kdNode B wq (.slice (some ⟨g, 0, none⟩) N cap) es' X' ∧ es'.length = N ∧ MkdNode es' X' ∧ (∀ (j : Nat) (x : Ent), es'[j]? = some x → x.n ≤ 1048576 ∧ x.m ≤ 1048576 + (if j < i then 3 else if j = i then k else 0)) ∧ Tf [88, 237] B w wq)) (fun kv _ => (3 - intOf kv).toNat)
      case atStart => exact ⟨0, es', X', rfl, by omega, hst2⟩
      case round =>
        clear hst2
        obtain ⟨k, eq, Xq, rfl, hk, hsq⟩ := hrel
        by_cases hk3 : k < 3
        · obtain ⟨hK, hlen, hmq, hbd, hTf⟩ := unhide hsq
          obtain ⟨x, hx⟩ : ∃ x, eq[i]? = some x := ⟨_, List.getElem?_eq_getElem (by rw [hlen]; exact hin)⟩
          obtain ⟨hxn, hxm⟩ := hbd i x hx
          have hxm2 : x.m ≤ 1048579 := by simp at hxm; omega
          obtain ⟨g', e', hBg, d1, d2, -, cur, hgc⟩ := hK.entry hx
          cases e'
          obtain ⟨p, cp, hxv⟩ := own_slice (hK.row i x hx)
          have hmx : x.m + 1 ≤ maxLen := by unfold maxLen; omega
          have hby : (x.m + 1) * 48 ≤ 140737488355328 := by omega
          have hBw : B ≤ wr.heap.size := Nat.le_trans hB hTf.size
          have HK : Hid (∀ w', Calls Tryz.prog 173 #[.int .i64 (x.n : Int)] w' fun e w'' => ∃ z, e = .returned (.agg #[.int .i64 z, .int .i64 0, .int .i64 0, .slice none 0 0]) ∧ mkNode x.n [.int .i64 z, .int .i64 0, .int .i64 0, .slice none 0 0] ∧ Below w'.heap.size w' w'') := fun w' => markNode_b x.n w' hxn
          have HA : Hid (∀ W, Below wr.heap.size wr W → W.cell? ⟨g, i * 2, none⟩ = some x.v ∧ W.ownsRow B 88 4 x.v x.m (Xq i) ∧ Ke kdNode B W (.slice (some ⟨g, 0, none⟩) N cap) eq Xq ∧ B ≤ W.heap.size ∧ Tf [88, 237] B w W) := fun W hb => by
            have hK2 := hK.bw hb
            obtain ⟨g2, e2', -, d1', -⟩ := hK2.entry hx
            cases e2'
            exact ⟨d1', hK2.row i x hx, hK2, Nat.le_trans hBw hb.size, hTf.after hb hB⟩
          have HM := hide (And.intro hmx hby)
          have HS : Hid (∀ (v' : Value) z, mkNode x.n [.int .i64 z, .int .i64 0, .int .i64 0, .slice none 0 0] → (eq.set i ⟨v', x.n, x.m + 1⟩).length = N ∧ MkdNode (eq.set i ⟨v', x.n, x.m + 1⟩) (fun j => if j = i then Xq i ++ [.int .i64 z, .int .i64 0, .int .i64 0, .slice none 0 0] else Xq j) ∧ (∀ (j : Nat) (y : Ent), (eq.set i ⟨v', x.n, x.m + 1⟩)[j]? = some y → y.n ≤ 1048576 ∧ y.m ≤ 1048576 + (if j < i then 3 else if j = i then k + 1 else 0))) := fun v' z hm => by
            have hil : i < eq.length := by rw [hlen]; exact hin
            refine ⟨by simp [hlen], fun j y hy => ?_, fun j y hy => ?_⟩
            · by_cases q : j = i
              · subst q
                rw [List.getElem?_set_self hil] at hy
                cases hy
                simp only [if_true]
                exact (hmq j x hx).snoc rfl hm
              · rw [List.getElem?_set_ne (Ne.symm q)] at hy
                simp only [q, if_false]
                exact hmq j y hy
            · by_cases q : j = i
              · subst q
                rw [List.getElem?_set_self hil] at hy
                cases hy
                simp at hxm ⊢
                omega
              · rw [List.getElem?_set_ne (Ne.symm q)] at hy
                have := hbd j y hy
                simp only [q, if_false] at this ⊢
                exact this
          have bA : Below wr.heap.size wr wr.drew := (Below.refl _ _).drew
          obtain ⟨v, hv⟩ : ∃ v, v = x.v := ⟨_, rfl⟩
          have hxv2 : v = .slice p x.m cp := by rw [hv]; exact hxv
          rw [← hv] at d1 HA
          have HV := hide hv
          have HX := hide hx
          have hkI : (k : Int) < 3 := by omega
          have e2q := unhide HC wr hTf
          subst hxv2
          have HBw := hide hBw
          obtain ⟨xm, hxm3⟩ : ∃ xm, xm = x.m := ⟨_, rfl⟩
          rw [← hxm3] at d1 HA HM HV
          have HXM := hide hxm3
          clear hK hlen hmq hbd hTf hx hxn hxm hxm2 hBg hgc hxv hmx hby hBw hv hsq hxm3
          go_wp2_with fail
          go_region_law (first | (refine step_app rfl (.tmp 27) (.tmp 33) 22 rfl B 88 i0 (.agg #[.int .i64 0, .int .i64 0, .int .i64 0, .slice none 0 0]) 4 48 Tryz.underlying22 hi0 hz0 hz1 hz2 rfl (by decide) (.slice p xm cp) xm (Xq i) (by simp [Act.eval]) (World.ownsRow.alloc X1.2.1 _) ⟨z1.heap.size, 0, none⟩ 1 1 [.int .i64 z, .int .i64 0, .int .i64 0, .slice none 0 0] (by simp [Act.eval]) rfl (cells_newB4 z1 _ _ _ _ _) (oneNode z) (unhide HM).1 (unhide HM).2 (Nat.le_trans X1.2.2.2.1 (by simp)) ?_; intro v' w1 hown' hgrow hat; have X3 := (X1.2.2.1).grown (unhide HX) ((Fr.refl [] z1).alloc _) (v' := v') (news := [.int .i64 z, .int .i64 0, .int .i64 0, .slice none 0 0]) (by rw [← unhide HXM]; exact hown') (by rw [← unhide HV]; exact hgrow) (by rw [← unhide HV]; exact hat) X1.2.2.2.1 (by decide); obtain ⟨k1, k2, k3, k4⟩ := X3; rw [← unhide HV] at k3; obtain ⟨gv, cpv, rfl⟩ := row_formB hown') | (go_simp; go_wp2_with (first | (go_at_call 173; refine (unhide HK _).mono ?_; rintro e z1 ⟨z, rfl, hm, b1⟩; have b2 := bw_tr bA b1; have X1 := unhide HA _ b2; have x1 := X1.1; have X2 := unhide HA _ (bw_tr b2 (bwA z1 (.cells #[.int .i64 z, .int .i64 0, .int .i64 0, .slice none 0 0] 88))); have x2 := X2.1))))
          all_goals
            have hz := unhide HS (.slice (some ⟨gv, 0, none⟩) (xm + 1) cpv) z hm
            obtain ⟨E2, X2', HZ⟩ : ∃ E2 X2', Hid (Ke kdNode B ((w1).setCell ⟨g, i * 2, none⟩ (.slice (some ⟨gv, 0, none⟩) (xm + 1) cpv)) (.slice (some ⟨g, 0, none⟩) N cap) E2 X2' ∧ E2.length = N ∧ MkdNode E2 X2' ∧ (∀ (j : Nat) (y : Ent), E2[j]? = some y → y.n ≤ 1048576 ∧ y.m ≤ 1048576 + (if j < i then 3 else if j = i then k + 1 else 0)) ∧ Tf [88, 237] B w ((w1).setCell ⟨g, i * 2, none⟩ (.slice (some ⟨gv, 0, none⟩) (xm + 1) cpv))) :=
              ⟨eq.set i ⟨.slice (some ⟨gv, 0, none⟩) (xm + 1) cpv, x.n, x.m + 1⟩, fun j => if j = i then Xq i ++ [.int .i64 z, .int .i64 0, .int .i64 0, .slice none 0 0] else Xq j, k1, hz.1, hz.2.1, hz.2.2, X1.2.2.2.2.trans k2⟩
            clear k1 k2 X1 X2 hm hz
            go_wp2_with fail
            go_roundw
            case rel => exact ⟨k + 1, E2, X2', by go_num, by omega, HZ⟩
            case measure => simp only [intOf]; omega
        · obtain rfl : k = 3 := by omega
          have HX3 : Hid (Ke kdNode B wr (.slice (some ⟨g, 0, none⟩) N cap) eq Xq ∧ eq.length = N ∧ MkdNode eq Xq ∧ (∀ (j : Nat) (x : Ent), eq[j]? = some x → x.n ≤ 1048576 ∧ x.m ≤ 1048576 + (if j < i + 1 then 3 else 0)) ∧ Tf [88, 237] B w wr) := by
            obtain ⟨h1, h2, h3, h4, h5⟩ := unhide hsq
            refine ⟨h1, h2, h3, fun j x hx => ?_, h5⟩
            have := h4 j x hx
            refine ⟨this.1, Nat.le_trans this.2 (Nat.add_le_add_left ?_ _)⟩
            by_cases q : j < i
            · rw [if_pos q, if_pos (by omega)]; exact Nat.le_refl _
            · by_cases q2 : j = i
              · rw [if_neg q, if_pos q2, if_pos (by omega)]; exact Nat.le_refl _
              · rw [if_neg q, if_neg q2]; omega
          clear hsq
          go_wp2_with fail
          go_roundw
          case rel => exact ⟨i + 1, eq, Xq, by go_num, by omega, HX3⟩
          case measure => simp only [intOf]; omega
    · obtain rfl : i = N := by omega
      go_wp2_with fail
      go_end0
      obtain ⟨h1, h2, h3, h4, h5⟩ := unhide hst
      refine ⟨rfl, ⟨es', X', h1, h2, fun x hx => ?_, h3⟩, h5⟩
      obtain ⟨j, hj⟩ := List.mem_iff_getElem?.1 hx
      have := h4 j x hj
      refine ⟨this.1, Nat.le_trans this.2 ?_⟩
      split <;> omega
end Go.Proofs.YtaanacnloljlmaaGreatDoor

/- The contract of lookNode of a Book: marks are found. -/
namespace Go.Proofs.YtaanacnloljlmaaGreatDoor
open Go.RowKit Go.Maps

theorem isNode_b (n : Nat) (z : Int) (hz : mkNode n [.int .i64 z, .int .i64 0, .int .i64 0, .slice none 0 0]) (w : World) (h : n ≤ 1048576) : Calls Tryz.prog 182 #[.agg #[.int .i64 z, .int .i64 0, .int .i64 0, .slice none 0 0], .int .i64 (n : Int)] w fun e w' => e = .returned (.bool true) ∧ Below w.heap.size w w' := by
  obtain rfl : z = mkI n := by unfold mkNode at hz; simpa using hz
  exact (isNode_any n w (by omega))
set_option maxRecDepth 100000 in
set_option maxHeartbeats 4000000 in
theorem lookNode_b (B b : Nat) (cnt : Int) (F : Nat → Value) (es : List Ent) (X : Nat → List Value) (w : World) (hb : w.heap[b]? = some (.cells (bookF cnt F) 70 (0, 0))) (h : Ke kdNode B w (F 19) es X) (hN : es.length ≤ 1048576) (hes : ∀ x ∈ es, x.n ≤ 1048576 ∧ x.m ≤ 1048579) (hmk : MkdNode es X) :
    Calls Tryz.prog 132 #[.pointer (some ⟨b, 0, none⟩)] w fun e w' => e = .returned (.bool true) ∧ Below w.heap.size w w' := by
  have c2 := book_cell hb (k := 19) (by decide) (by decide)
  obtain ⟨a, cap, hF⟩ := h.form
  rw [hF] at c2 h
  have HL := hide (And.intro h (And.intro hes hmk))
  have hNI : ((es.length : Nat) : Int) ≤ 1048576 := by omega
  clear hF h hes hb hN hmk
  obtain ⟨N, hN⟩ : ∃ N, N = es.length := ⟨_, rfl⟩
  rw [← hN] at c2 HL hNI
  have HN := hide hN
  clear hN
  go_enter Tryz.func132, Tryz.ntmps132
  go_wp2_with fail
  go_loopw [12] (fun iv wr => ∃ i : Nat, iv = .int .i64 (i : Int) ∧ i ≤ N ∧ Below w.heap.size w wr) (fun iv _ => (N - intOf iv).toNat)
  case atStart => exact ⟨0, rfl, by omega, Below.refl _ _⟩
  case round =>
    obtain ⟨i, rfl, hi, hbel⟩ := hrel
    by_cases hin : i < N
    · obtain ⟨x, hx⟩ : ∃ x, es[i]? = some x := ⟨_, List.getElem?_eq_getElem (by rw [← unhide HN]; exact hin)⟩
      have hK := (unhide HL).1.bw hbel
      obtain ⟨hxn, hxm⟩ := (unhide HL).2.1 x (List.mem_of_getElem? hx)
      have hmk := (unhide HL).2.2 i x hx
      obtain ⟨g, rfl, hBg, d1, d2, -, -⟩ := hK.entry hx
      have hr := hK.row i x hx
      obtain ⟨p, cp, hxv⟩ := own_slice hr
      rw [hxv] at d1 hr
      have hiN : (i : Int) < (N : Int) := by omega
      have hi0 : (0 : Int) ≤ (i : Int) := by omega
      have hMI : ((x.m : Nat) : Int) ≤ 1048579 := by omega
      obtain ⟨M, hM⟩ : ∃ M, M = x.m := ⟨_, rfl⟩
      obtain ⟨n, hn⟩ : ∃ n, n = x.n := ⟨_, rfl⟩
      rw [← hM] at d1 hMI hr hmk
      rw [← hn] at d2 hmk hxn
      have HV := hide (And.intro hmk hr)
      have HK : Hid (∀ z, mkNode n [.int .i64 z, .int .i64 0, .int .i64 0, .slice none 0 0] → ∀ w', Calls Tryz.prog 182 #[.agg #[.int .i64 z, .int .i64 0, .int .i64 0, .slice none 0 0], .int .i64 (n : Int)] w' fun e w'' => e = .returned (.bool true) ∧ Below w'.heap.size w' w'') := fun z hz w' => isNode_b n z hz w' hxn
      have start : Hid (Below wr.heap.size wr (wr.alloc (.cells #[.slice p M cp, .int .i64 (n : Int)] 237)) ∧ (wr.alloc (.cells #[.slice p M cp, .int .i64 (n : Int)] 237)).cell? ⟨wr.heap.size, 1, none⟩ = some (.int .i64 (n : Int))) := ⟨bwA _ _, cell_of_blk (heap_alloc_new _ _) rfl⟩
      have HB := hide hbel
      clear hM hn hmk hr hK hx hxn hxm hBg hxv hbel
      go_wp2_with fail
      rename World => wo
      go_loopw [19] (fun kv wq => ∃ k : Nat, kv = .int .i64 (k : Int) ∧ k ≤ M ∧ Hid (Below wo.heap.size wo wq ∧ wq.cell? ⟨wo.heap.size, 1, none⟩ = some (.int .i64 (n : Int)))) (fun kv _ => (M - intOf kv).toNat)
      case atStart => exact ⟨0, rfl, by omega, start⟩
      case round =>
        clear start
        obtain ⟨k, rfl, hk, HR⟩ := hrel
        by_cases hkM : k < M
        · have hkM' : (k : Int) < (M : Int) := by omega
          have hk0 : (0 : Int) ≤ (k : Int) := by omega
          obtain ⟨hmk, hr⟩ := unhide HV
          obtain ⟨l, hlen, hml, hl⟩ := hmk.get hkM
          have hr2 := own_keep hr (w' := wr) (fun q hq => (unhide HR).1.block q (World.ownsRow.lt hr q hq).2)
          obtain ⟨gv, cp', e1, -⟩ := own_open hr (by omega)
          simp only [Value.slice.injEq] at e1
          obtain ⟨e1a, -, -⟩ := e1
          subst e1a
          obtain ⟨z, hz⟩ : ∃ z, l = [.int .i64 z, .int .i64 0, .int .i64 0, .slice none 0 0] := ⟨_, hml⟩
          rw [hz] at hl hml
          have t0 : wr.cell? ⟨gv, k * 4, none⟩ = some (.int .i64 z) := own_cell hr2 rfl (by simpa using hl 0 _ rfl); have t1 : wr.cell? ⟨gv, k * 4 + 1, none⟩ = some (.int .i64 0) := own_cell hr2 rfl (hl 1 _ rfl); have t2 : wr.cell? ⟨gv, k * 4 + 2, none⟩ = some (.int .i64 0) := own_cell hr2 rfl (hl 2 _ rfl); have t3 : wr.cell? ⟨gv, k * 4 + 3, none⟩ = some (.slice none 0 0) := own_cell hr2 rfl (hl 3 _ rfl)
          have c1 := (unhide HR).2
          have XX : Hid (∀ W, Below wr.heap.size wr W → Below wo.heap.size wo W ∧ W.cell? ⟨wo.heap.size, 1, none⟩ = some (.int .i64 (n : Int))) := fun W hb => ⟨bw_tr (unhide HR).1 hb, by rw [World.cell?_of_block (w := wr) (hb.block _ (lt_of_cell c1))]; exact c1⟩
          have hb1 : Below wr.heap.size wr (wr.alloc (.cells #[.int .i64 z, .int .i64 0, .int .i64 0, .slice none 0 0] 88)) := bwA wr _
          have KI := hide (unhide HK z hml (wr.alloc (.cells #[.int .i64 z, .int .i64 0, .int .i64 0, .slice none 0 0] 88)))
          have hwl := lt_of_cell c1
          clear hmk hr hlen hml hl hr2 hz HR
          go_wp2_with fail
          refine (unhide KI).mono ?_
          rintro e w5 ⟨rfl, b5⟩
          have X5 := hide (unhide XX _ (bw_tr hb1 b5))
          clear KI b5 XX c1 t0 t1 t2 t3
          go_wp2_with fail
          go_roundw
          case rel => exact ⟨k + 1, by go_num, by omega, X5⟩
          case measure => simp only [intOf]; omega
        · obtain rfl : k = M := by omega
          have hb9 := bw_tr (unhide HB) (unhide HR).1
          clear HR
          go_wp2_with fail
          go_roundw
          case rel => exact ⟨i + 1, by go_num, by omega, hb9⟩
          case measure => simp only [intOf]; omega
    · obtain rfl : i = N := by omega
      go_wp2_with fail
      go_ret
      exact ⟨rfl, hbel⟩
end Go.Proofs.YtaanacnloljlmaaGreatDoor

/- A Book that keeps lists of numbers and of nodes: Numbers, Node, Nodes, Tree. -/
namespace Go.Proofs.YtaanacnloljlmaaGreatDoor
open Go.RowKit Go.Maps

/-- A Book at the block b, with so many lists, all of which lie below H. -/
structure Bo (B : Nat) (w : World) (b n H : Nat) (F : Nat → Value) (eN eD : List Ent) (XN XD : Nat → List Value) : Prop where
  blk : w.heap[b]? = some (.cells (bookF (n : Int) F) 70 (0, 0))
  low : B ≤ b
  N : Ke kdNumber B w (F 2) eN XN
  D : Ke kdNode B w (F 19) eD XD
  nil : ∀ k, 0 < k → k < 35 → k ≠ 2 → k ≠ 19 → F k = .slice none 0 0
  lN : eN.length ≤ n
  lD : eD.length ≤ n
  cN : ∀ x ∈ eN, x.n ≤ n ∧ x.m ≤ 1048576 ∧ ∀ k, x.v.ownBlock = some k → k < H
  cD : ∀ x ∈ eD, x.n ≤ n ∧ x.m ≤ 1048576 ∧ ∀ k, x.v.ownBlock = some k → k < H
theorem Bo.bw {B : Nat} {w w' : World} {b n H : Nat} {F : Nat → Value} {eN eD : List Ent} {XN XD : Nat → List Value} (h : Bo B w b n H F eN eD XN XD) (hb : Below w.heap.size w w') : Bo B w' b n H F eN eD XN XD :=
  ⟨by rw [hb.block b (lt_of_blk h.blk)]; exact h.blk, h.low, h.N.bw hb, h.D.bw hb, h.nil, h.lN, h.lD, h.cN, h.cD⟩
theorem Bo.up {B : Nat} {w : World} {b n H H' : Nat} {F : Nat → Value} {eN eD : List Ent} {XN XD : Nat → List Value} (h : Bo B w b n H F eN eD XN XD) (hH : H ≤ H') : Bo B w b n H' F eN eD XN XD :=
  ⟨h.blk, h.low, h.N, h.D, h.nil, h.lN, h.lD, fun x hx => ⟨(h.cN x hx).1, (h.cN x hx).2.1, fun k hk => Nat.lt_of_lt_of_le ((h.cN x hx).2.2 k hk) hH⟩, fun x hx => ⟨(h.cD x hx).1, (h.cD x hx).2.1, fun k hk => Nat.lt_of_lt_of_le ((h.cD x hx).2.2 k hk) hH⟩⟩
theorem Bo.start {B : Nat} {w : World} {b : Nat} (hb : w.heap[b]? = some (.cells (bookF 0 (fun _ => .slice none 0 0)) 70 (0, 0))) (hB : B ≤ b) (H : Nat) : Bo B w b 0 H (fun _ => .slice none 0 0) [] [] (fun _ => []) (fun _ => []) :=
  ⟨hb, hB, Ke.nil _ _ _, Ke.nil _ _ _, fun _ _ _ _ _ => rfl, by simp, by simp, by simp, by simp⟩
theorem OTr.tf {ts : List TypeId} {B B' : Nat} {w w' : World} {v : Value} {T : List Nd} {us : List Value} (h : OTr B w v T us) (ht : Tf ts B' w w') (h1 : 88 ∉ ts) (h2 : 3 ∉ ts) : OTr B w' v T us :=
  ⟨h.ul, ht.own h.row h1, fun i n u hn hu => ht.own (h.un i n u hn hu) h2, h.apart⟩
set_option maxHeartbeats 1000000 in
theorem numbers_b (B b n H : Nat) (F : Nat → Value) (eN eD : List Ent) (XN XD : Nat → List Value) (p : Option Addr) (l : List Int) (cap : Nat) (w : World) (h : Bo B w b n H F eN eD XN XD) (hB : B ≤ w.heap.size) (hn : n ≤ 1048575) (hl : l.length ≤ 1048576)
    (hv : Ints B w (.slice p l.length cap) l) (hH : ∀ k, (Value.slice p l.length cap).ownBlock = some k → k < H) (hap : ∀ (i : Nat) (y : Ent) (k : Nat), eN[i]? = some y → y.v.ownBlock = some k → (Value.slice p l.length cap).ownBlock ≠ some k) :
    Calls Tryz.prog 19 #[.pointer (some ⟨b, 0, none⟩), .slice p l.length cap] w fun e w' => e = .returned (.tuple #[]) ∧ (∃ F' XN', Bo B w' b (n + 1) H F' (eN ++ [Ent.mk (.slice p l.length cap) n l.length]) eD XN' XD) ∧ Tf [70, 125] B w w' := by
  have K := hide (keepNumber_b B b n F eN XN p l.length cap w h.blk h.N h.low hB (by have := h.lN; omega) (by omega))
  have HF : Hid (∀ w' lv', w'.heap[b]? = some (.cells (bookF ((n + 1 : Nat) : Int) (updF F 2 lv')) 70 (0, 0)) → w'.ownsRow B 125 2 lv' (eN ++ [Ent.mk (.slice p l.length cap) n l.length]).length (helE (eN ++ [Ent.mk (.slice p l.length cap) n l.length])) → Tf [70, 125] B w w' → (∃ F' XN', Bo B w' b (n + 1) H F' (eN ++ [Ent.mk (.slice p l.length cap) n l.length]) eD XN' XD)) := fun w' lv' h1 h2 h3 => by
    have hsn := h.N.snoc (x := Ent.mk (.slice p l.length cap) n l.length) (xs := l.map I64) (T := 70) h3 (by decide) (by decide) h2 hv hap
    refine ⟨updF F 2 lv', _, h1, h.low, hsn, ?_, fun k k0 k35 k2 k19 => ?_, by have := h.lN; simp; omega, by have := h.lD; omega, fun x hx => ?_, fun x hx => ?_⟩
    · exact (h.D.tf h3 (by decide) (by decide))
    · have := h.nil k k0 k35 k2 k19
      simpa [updF, k2] using this
    · rcases List.mem_append.1 hx with q | q
      · have := h.cN x q; exact ⟨by omega, this.2.1, this.2.2⟩
      · simp at q; subst q; exact ⟨by simp, hl, hH⟩
    · have := h.cD x hx; exact ⟨by omega, this.2.1, this.2.2⟩
  clear h hv hH hap hl hn hB
  generalize l.length = L at *
  go_enter Tryz.func19, Tryz.ntmps19
  go_wp2_with fail
  refine (unhide K).mono ?_
  rintro e w1 ⟨rfl, lv', h1, h2, h3⟩
  have HZ := hide (And.intro (unhide HF w1 lv' h1 h2 h3) h3)
  clear h1 h2 h3
  go_wp2
  go_end0
  exact ⟨rfl, unhide HZ⟩
set_option maxHeartbeats 1000000 in
theorem bnode_b (B b n H : Nat) (F : Nat → Value) (eN eD : List Ent) (XN XD : Nat → List Value) (pb m ep : Int) (p : Option Addr) (l : List Int) (cap : Nat) (w : World) (h : Bo B w b n H F eN eD XN XD) (hB : B ≤ w.heap.size) (hn : n ≤ 1048575) (hl : l.length ≤ 1048576)
    (hv : Ints B w (.slice p l.length cap) l) (hH : ∀ k, (Value.slice p l.length cap).ownBlock = some k → k < H) (hap : ∀ (i : Nat) (y : Ent) (k : Nat), eN[i]? = some y → y.v.ownBlock = some k → (Value.slice p l.length cap).ownBlock ≠ some k) :
    Calls Tryz.prog 258 #[.pointer (some ⟨b, 0, none⟩), .agg #[.int .i64 pb, .int .i64 m, .int .i64 ep, .slice p l.length cap]] w fun e w' => e = .returned (.tuple #[]) ∧ (∃ F' XN', Bo B w' b (n + 1) H F' (eN ++ [Ent.mk (.slice p l.length cap) n l.length]) eD XN' XD) ∧ Tf [70, 125] B w w' := by
  obtain ⟨W0, hW0⟩ : ∃ W0, W0 = w.alloc (.cells #[.int .i64 pb, .int .i64 m, .int .i64 ep, .slice p l.length cap] 88) := ⟨_, rfl⟩
  have hb0 : Below w.heap.size w W0 := by rw [hW0]; exact bwA _ _
  have K := hide (numbers_b B b n H F eN eD XN XD p l cap W0 (h.bw hb0) (Nat.le_trans hB hb0.size) hn hl (hv.bw hb0) hH hap)
  have HT : Hid (Tf [70, 125] B w W0) := Tf.ofBelow hb0 hB
  have HW : Hid (W0 = w.alloc (.cells #[.int .i64 pb, .int .i64 m, .int .i64 ep, .slice p l.length cap] 88)) := hW0
  clear h hv hH hap hl hn hB hW0 hb0
  generalize l.length = L at *
  go_enter Tryz.func258, Tryz.ntmps258
  go_wp2_with fail
  rw [← unhide HW]
  refine (unhide K).mono ?_
  rintro e w1 ⟨rfl, h1, h3⟩
  have HZ := hide (And.intro h1 ((unhide HT).trans h3))
  clear h1 h3
  go_wp2
  go_end0
  exact ⟨rfl, unhide HZ⟩
set_option maxRecDepth 100000 in
set_option maxHeartbeats 4000000 in
theorem bnodes_b (B b n H H2 : Nat) (F : Nat → Value) (eN eD : List Ent) (XN XD : Nat → List Value) (v : Value) (T : List Nd) (us : List Value) (w : World) (h : Bo B w b n H F eN eD XN XD) (hB : B ≤ w.heap.size) (hBH : B ≤ H) (ho : OTr H w v T us) (hH2 : H ≤ H2) (hlt : ∀ k, v.ownBlock = some k → k < H2) (hltu : ∀ (i : Nat) (u : Value) (k : Nat), us[i]? = some u → u.ownBlock = some k → k < H2)
    (hn : n + T.length + 1 ≤ 1048576) (hu : ∀ x ∈ T, x.un.length ≤ 1048576) :
    Calls Tryz.prog 162 #[.pointer (some ⟨b, 0, none⟩), v] w fun e w' => e = .returned (.tuple #[]) ∧ (∃ F' eN' eD' XN' XD', Bo B w' b (n + T.length + 1) H2 F' eN' eD' XN' XD') ∧ Tf [70, 125, 237] B w w' := by
  obtain ⟨a, c, rfl⟩ := own_slice ho.row
  have HI : Hid (∀ i, i < T.length → ∃ g pb m ep up ul uc, a = some ⟨g, 0, none⟩ ∧ us[i]? = some (.slice up ul uc) ∧ (ndAt T i).un.length = ul ∧ (∀ w', Tf [70, 125] B w w' → (w'.cell? ⟨g, i * 4, none⟩ = some (.int .i64 pb) ∧ w'.cell? ⟨g, i * 4 + 1, none⟩ = some (.int .i64 m) ∧ w'.cell? ⟨g, i * 4 + 2, none⟩ = some (.int .i64 ep) ∧ w'.cell? ⟨g, i * 4 + 3, none⟩ = some (.slice up ul uc)) ∧ Ints B w' (.slice up ul uc) (ndAt T i).un)) := fun i hi => by
    obtain ⟨g, cap', e, -⟩ := own_open ho.row (by omega)
    obtain ⟨u, hu'⟩ : ∃ u, us[i]? = some u := ⟨_, List.getElem?_eq_getElem (by rw [ho.ul]; exact hi)⟩
    have hI := ho.un i _ u (ndAt_of hi) hu'
    obtain ⟨up, uc, hue⟩ := own_slice hI
    cases e
    subst hue
    refine ⟨g, (ndAt T i).pub, (ndAt T i).mem, (ndAt T i).ep, up, (ndAt T i).un.length, uc, rfl, hu', rfl, fun w' ht => ?_⟩
    have ho' := ho.tf ht (by decide) (by decide)
    refine ⟨⟨?_, ?_, ?_, ?_⟩, (ho'.un i _ _ (ndAt_of hi) hu').mono hBH⟩
    · simpa using own_cell ho'.row rfl (treeC_get (ndAt_of hi) hu' (j := 0) rfl)
    · exact own_cell ho'.row rfl (treeC_get (ndAt_of hi) hu' (j := 1) rfl)
    · exact own_cell ho'.row rfl (treeC_get (ndAt_of hi) hu' (j := 2) rfl)
    · exact own_cell ho'.row rfl (treeC_get (ndAt_of hi) hu' (j := 3) rfl)
  have HAP : Hid (∀ i, i < T.length → ∀ (e' : List Ent), (∀ y ∈ e', y ∈ eN ∨ ∃ j u, j < i ∧ us[j]? = some u ∧ y.v = u) → ∀ u, us[i]? = some u → (∀ (q : Nat) (y : Ent) (k : Nat), e'[q]? = some y → y.v.ownBlock = some k → u.ownBlock ≠ some k) ∧ ∀ k, u.ownBlock = some k → k < H2) := fun i hi e' he u hu' => by
    refine ⟨fun q y k hy hk hk2 => ?_, fun k hk => hltu i u k hu' hk⟩
    rcases he y (List.mem_of_getElem? hy) with c | ⟨j, u2, hj, hu2, e⟩
    · have h1 := (h.cN y c).2.2 k hk
      have h2 := (World.ownsRow.lt (ho.un i _ u (ndAt_of hi) hu') k hk2).1
      omega
    · rw [e] at hk
      have := ho.apart j i u2 u k hu2 hu' hk hk2
      omega
  have HKN : Hid (∀ w' F' e' X', Bo B w' b (n + T.length) H2 F' e' eD X' XD → Tf [70, 125] B w w' → Calls Tryz.prog 259 #[.pointer (some ⟨b, 0, none⟩), .slice a T.length c] w' fun e w'' => e = .returned (.tuple #[]) ∧ (∃ F' eN' eD' XN' XD', Bo B w'' b (n + T.length + 1) H2 F' eN' eD' XN' XD') ∧ Tf [70, 125, 237] B w w'') := fun w' F' e' X' hb ht => by
    refine (keepNode_b B b (n + T.length) F' eD XD a T.length c w' hb.blk hb.D hb.low (Nat.le_trans hB ht.size) (by have := hb.lD; omega) (by omega)).mono fun e w'' ⟨h1, lv', h2, h3, h4⟩ => ⟨h1, ?_, (ht.mono (by intro t h; simp at h ⊢; rcases h with h | h <;> simp [h])).trans (h4.mono (by intro t h; simp at h ⊢; rcases h with h | h <;> simp [h]))⟩
    have hrow := (ho.tf ht (by decide) (by decide)).row
    have hsn := hb.D.snoc (x := Ent.mk (.slice a T.length c) (n + T.length) T.length) (xs := treeC T us) (T := 70) h4 (by decide) (by decide) h3 (own_mono hrow hBH) (fun i y k hy hk hk2 => by
      have q1 := (h.cD y (List.mem_of_getElem? hy)).2.2 k hk
      have q2 := (World.ownsRow.lt ho.row k hk2).1
      omega)
    refine ⟨updF F' 19 lv', e', _, X', _, h2, hb.low, hb.N.tf h4 (by decide) (by decide), hsn, fun k k0 k35 k2 k19 => ?_, by have := hb.lN; omega, by have := hb.lD; simp; omega, fun x hx => ?_, fun x hx => ?_⟩
    · have := hb.nil k k0 k35 k2 k19
      simpa [updF, k19] using this
    · have := hb.cN x hx; exact ⟨by omega, this.2.1, this.2.2⟩
    · rcases List.mem_append.1 hx with q | q
      · have := hb.cD x q; exact ⟨by omega, this.2.1, this.2.2⟩
      · simp at q; subst q; exact ⟨by simp, by simp; omega, hlt⟩
  have HS : Hid (Bo B w b n H2 F eN eD XN XD) := h.up hH2
  have HUL : Hid (∀ i, i < T.length → (ndAt T i).un.length ≤ 1048576) := fun i hi => hu _ (ndAt_mem hi)
  have HBw := hide hB
  have hnI : ((n : Nat) : Int) + ((T.length : Nat) : Int) + 1 ≤ 1048576 := by omega
  have HNn := hide hn
  clear h hB hBH ho hH2 hlt hltu hn hu
  obtain ⟨N, hN⟩ : ∃ N, N = T.length := ⟨_, rfl⟩
  rw [← hN] at HI HAP HKN HUL hnI HNn ⊢
  clear hN
  go_enter Tryz.func162, Tryz.ntmps162
  go_wp2_with fail
  go_loopw [7] (fun iv wr => ∃ i : Nat, iv = .int .i64 (i : Int) ∧ i ≤ N ∧ Hid (∃ F' e' X', Bo B wr b (n + i) H2 F' e' eD X' XD ∧ (∀ y ∈ e', y ∈ eN ∨ ∃ j u, j < i ∧ us[j]? = some u ∧ y.v = u) ∧ Tf [70, 125] B w wr)) (fun iv _ => (N - intOf iv).toNat)
  case atStart => exact ⟨0, rfl, by omega, ⟨F, eN, XN, unhide HS, fun y hy => Or.inl hy, Tf.refl _ _ _⟩⟩
  case round =>
    clear HS
    obtain ⟨i, rfl, hi, hst⟩ := hrel
    by_cases hin : i < N
    · obtain ⟨F', e', X', hbo, hmem, htf⟩ := unhide hst
      obtain ⟨g, pb, m, ep, up, ul, uc, rfl, hui, hul, hc⟩ := unhide HI i hin
      obtain ⟨⟨c0, c1, c2, c3⟩, hI⟩ := hc wr htf
      have hap := unhide HAP i hin e' hmem _ hui
      have hulb := unhide HUL i hin
      have hnn := unhide HNn
      have K := bnode_b B b (n + i) H2 F' e' eD X' XD pb m ep up (ndAt T i).un uc wr hbo (Nat.le_trans (unhide HBw) htf.size) (by omega) hulb (by rw [hul]; exact hI) (by rw [hul]; exact hap.2) (by rw [hul]; exact hap.1)
      rw [hul] at K
      have HK := hide K
      have HZ : Hid (∀ w', Tf [70, 125] B wr w' → (∃ F'' X'', Bo B w' b (n + i + 1) H2 F'' (e' ++ [Ent.mk (.slice up ul uc) (n + i) ul]) eD X'' XD) → ∃ F' e' X', Bo B w' b (n + (i + 1)) H2 F' e' eD X' XD ∧ (∀ y ∈ e', y ∈ eN ∨ ∃ j u, j < i + 1 ∧ us[j]? = some u ∧ y.v = u) ∧ Tf [70, 125] B w w') := fun w' ht2 ⟨F'', X'', hb2⟩ => by
        refine ⟨F'', _, X'', hb2, fun y hy => ?_, htf.trans ht2⟩
        rcases List.mem_append.1 hy with q | q
        · rcases hmem y q with c | ⟨j, u, hj, hu1, hu2⟩
          · exact Or.inl c
          · exact Or.inr ⟨j, u, by omega, hu1, hu2⟩
        · simp at q; subst q; exact Or.inr ⟨i, _, by omega, hui, rfl⟩
      have q1 : (i : Int) < (N : Int) := by omega
      have q0 : (0 : Int) ≤ (i : Int) := by omega
      clear hbo hmem htf hui hul hc hI hap hulb hnn K hst
      go_wp2_with fail
      refine (unhide HK).mono ?_
      rintro e w2 ⟨rfl, h1, h2⟩
      have HX := hide (unhide HZ w2 h2 h1)
      clear h1 h2 HK HZ c0 c1 c2 c3
      go_wp2_with fail
      go_roundw
      case rel => exact ⟨i + 1, by go_num, by omega, HX⟩
      case measure => simp only [intOf]; omega
    · obtain rfl : i = N := by omega
      obtain ⟨F', e', X', hbo, -, htf⟩ := unhide hst
      have K := hide (unhide HKN wr F' e' X' hbo htf)
      clear hbo htf hst
      go_wp2_with fail
      refine (unhide K).mono ?_
      rintro e w2 ⟨rfl, h1, h2⟩
      have HX := hide (And.intro h1 h2)
      clear h1 h2
      go_wp2
      go_end0
      exact ⟨rfl, unhide HX⟩
set_option maxHeartbeats 1000000 in
theorem btree_b (B b n H H2 : Nat) (F : Nat → Value) (eN eD : List Ent) (XN XD : Nat → List Value) (v : Value) (T : List Nd) (us : List Value) (w : World) (h : Bo B w b n H F eN eD XN XD) (hB : B ≤ w.heap.size) (hBH : B ≤ H) (ho : OTr H w v T us) (hH2 : H ≤ H2) (hlt : ∀ k, v.ownBlock = some k → k < H2) (hltu : ∀ (i : Nat) (u : Value) (k : Nat), us[i]? = some u → u.ownBlock = some k → k < H2)
    (hn : n + T.length + 1 ≤ 1048576) (hu : ∀ x ∈ T, x.un.length ≤ 1048576) :
    Calls Tryz.prog 29 #[.pointer (some ⟨b, 0, none⟩), .agg #[v]] w fun e w' => e = .returned (.tuple #[]) ∧ (∃ F' eN' eD' XN' XD', Bo B w' b (n + T.length + 1) H2 F' eN' eD' XN' XD') ∧ Tf [70, 125, 237] B w w' := by
  obtain ⟨a, c, rfl⟩ := own_slice ho.row
  obtain ⟨W0, hW0⟩ : ∃ W0, W0 = w.alloc (.cells #[.slice a T.length c] 24) := ⟨_, rfl⟩
  have hb0 : Below w.heap.size w W0 := by rw [hW0]; exact bwA _ _
  have K := hide (bnodes_b B b n H H2 F eN eD XN XD _ T us W0 (h.bw hb0) (Nat.le_trans hB hb0.size) hBH (ho.bw hb0) hH2 hlt hltu hn hu)
  have HT : Hid (Tf [70, 125, 237] B w W0) := Tf.ofBelow hb0 hB
  have HW : Hid (W0 = w.alloc (.cells #[.slice a T.length c] 24)) := hW0
  clear h ho hlt hltu hu hn hB hBH hW0 hb0
  generalize T.length = L at *
  go_enter Tryz.func29, Tryz.ntmps29
  go_wp2_with fail
  rw [← unhide HW]
  refine (unhide K).mono ?_
  rintro e w1 ⟨rfl, h1, h3⟩
  have HZ := hide (And.intro h1 ((unhide HT).trans h3))
  clear h1 h3
  go_wp2
  go_end0
  exact ⟨rfl, unhide HZ⟩
end Go.Proofs.YtaanacnloljlmaaGreatDoor

/- The contract of fillNumberRow of a Book: each kept list is marks then. -/
namespace Go.Proofs.YtaanacnloljlmaaGreatDoor
open Go.RowKit Go.Maps

theorem markNumberRow_b (n : Nat) (w : World) (h : n ≤ 1048576) : Calls Tryz.prog 213 #[.int .i64 (n : Int)] w fun e w' => ∃ z, e = .returned (.slice (some ⟨z, 0, none⟩) (rlen n) (rlen n)) ∧ mkNumberRow n [.slice (some ⟨z, 0, none⟩) (rlen n) (rlen n)] ∧ Below w.heap.size w w' := (markNumberRow_any n w (by omega)).mono (fun e w' h => ⟨w.heap.size, h.1, ⟨_, rfl⟩, h.2⟩)
set_option maxRecDepth 100000 in
set_option maxHeartbeats 4000000 in
theorem fillNumberRow_b (B b : Nat) (cnt : Int) (F : Nat → Value) (es : List Ent) (X : Nat → List Value) (w : World) (hb : w.heap[b]? = some (.cells (bookF cnt F) 70 (0, 0))) (h : Ke kdNumberRow B w (F 34) es X) (hB : B ≤ w.heap.size) (hN : es.length ≤ 1048576) (hes : ∀ x ∈ es, x.n ≤ 1048576 ∧ x.m ≤ 1048576) :
    Calls Tryz.prog 80 #[.pointer (some ⟨b, 0, none⟩)] w fun e w' => e = .returned (.tuple #[]) ∧ (∃ X', Ke kdNumberRow B w' (F 34) es X' ∧ ∀ i x, es[i]? = some x → Mks (mkNumberRow x.n) 1 x.m (X' i)) ∧ Tf [31] B w w' := by
  have c2 := book_cell hb (k := 34) (by decide) (by decide)
  obtain ⟨a, cap, hF⟩ := h.form
  rw [hF] at c2 h ⊢
  have HC : Hid (∀ w', Tf [31] B w w' → w'.cell? ⟨b, 34, none⟩ = some (.slice a es.length cap)) := fun w' ht => by
    have := book_cell (ht.blk hb (by decide)) (k := 34) (by decide) (by decide)
    rw [hF] at this; exact this
  have HL := hide (And.intro h hes)
  have hNI : ((es.length : Nat) : Int) ≤ 1048576 := by omega
  clear hF h hes hb hN
  obtain ⟨N, hN⟩ : ∃ N, N = es.length := ⟨_, rfl⟩
  rw [← hN] at c2 HC HL hNI ⊢
  have HN := hide hN
  clear hN
  go_enter Tryz.func80, Tryz.ntmps80
  go_wp2_with fail
  go_loopw [10] (fun iv wr => ∃ (i : Nat) (X' : Nat → List Value), iv = .int .i64 (i : Int) ∧ i ≤ N ∧ Hid (Ke kdNumberRow B wr (.slice a N cap) es X' ∧ (∀ j x, es[j]? = some x → j < i → Mks (mkNumberRow x.n) 1 x.m (X' j)) ∧ Tf [31] B w wr)) (fun iv _ => (N - intOf iv).toNat)
  case atStart => exact ⟨0, X, rfl, by omega, ⟨(unhide HL).1, fun j x _ hj => by omega, Tf.refl _ _ _⟩⟩
  case round =>
    obtain ⟨i, X', rfl, hi, hst⟩ := hrel
    by_cases hin : i < N
    · obtain ⟨x, hx⟩ : ∃ x, es[i]? = some x := ⟨_, List.getElem?_eq_getElem (by rw [← unhide HN]; exact hin)⟩
      obtain ⟨hxn, hxm⟩ := (unhide HL).2 x (List.mem_of_getElem? hx)
      obtain ⟨g, rfl, hBg, d1, d2, -, -⟩ := (unhide hst).1.entry hx
      obtain ⟨p, cp, hxv⟩ := own_slice ((unhide hst).1.row i x hx)
      rw [hxv] at d1
      have e2 := unhide HC wr (unhide hst).2.2
      have hiN : (i : Int) < (N : Int) := by omega
      have hi0 : (0 : Int) ≤ (i : Int) := by omega
      have K := hide (fun w' => markNumberRow_b x.n w' hxn)
      have HX := hide (And.intro hx hxv)
      have hMI : ((x.m : Nat) : Int) ≤ 1048576 := by omega
      obtain ⟨M, hM⟩ : ∃ M, M = x.m := ⟨_, rfl⟩
      obtain ⟨n, hn⟩ : ∃ n, n = x.n := ⟨_, rfl⟩
      have hst2 : Hid (Ke kdNumberRow B wr (.slice (some ⟨g, 0, none⟩) N cap) es X' ∧ (∀ j y, es[j]? = some y → j < i → Mks (mkNumberRow y.n) 1 y.m (X' j)) ∧ (∃ pre rest, X' i = pre ++ rest ∧ Mks (mkNumberRow n) 1 0 pre) ∧ Tf [31] B w wr) := ⟨(unhide hst).1, (unhide hst).2.1, ⟨[], X' i, rfl, Mks.nil _ _⟩, (unhide hst).2.2⟩
      rw [← hM] at d1 HX hMI
      rw [← hn] at d2 K
      have HMn := hide (And.intro hM hn)
      clear hx hxn hxm hBg hxv hst hM hn
      go_wp2_with fail
      go_loopw [24] (fun kv wq => ∃ (k : Nat) (X' : Nat → List Value), kv = .int .i64 (k : Int) ∧ k ≤ M ∧ Hid (Ke kdNumberRow B wq (.slice (some ⟨g, 0, none⟩) N cap) es X' ∧ (∀ j y, es[j]? = some y → j < i → Mks (mkNumberRow y.n) 1 y.m (X' j)) ∧ (∃ pre rest, X' i = pre ++ rest ∧ Mks (mkNumberRow n) 1 k pre) ∧ Tf [31] B w wq)) (fun kv _ => (M - intOf kv).toNat)
      case atStart => exact ⟨0, X', rfl, by omega, hst2⟩
      case round =>
        clear hst2
        obtain ⟨k, Xq, rfl, hk, hsq⟩ := hrel
        by_cases hkM : k < M
        · obtain ⟨hK, hmk, ⟨pre, rest, hXi, hpre⟩, hTf⟩ := unhide hsq
          obtain ⟨hx, hxv⟩ := unhide HX
          obtain ⟨hMe, hne_⟩ := unhide HMn
          have hr := hK.row i x hx
          rw [hXi] at hr
          have hlen : (pre ++ rest).length = x.m * 1 := hr.1
          have hpl := hpre.len
          have hrl : 1 ≤ rest.length := by simp at hlen; omega
          obtain ⟨gv, cp', e1, hgl, -, -⟩ := own_open hr (by omega)
          rw [hxv] at e1
          simp only [Value.slice.injEq] at e1
          obtain ⟨e1a, -, -⟩ := e1
          subst e1a
          rw [hxv] at hr
          obtain ⟨y0, hy0⟩ : ∃ y, (pre ++ rest)[k]? = some y := ⟨_, List.getElem?_eq_getElem (by omega)⟩
          have yc0 := own_cell hr rfl hy0
          obtain ⟨g', e', hBg, d1', d2', -, cur, hgc⟩ := hK.entry hx
          cases e'
          rw [hxv] at d1'
          rw [← hne_] at d2'
          obtain ⟨curv, hvc⟩ := own_kind hr (k := gv) rfl
          have hBv : B ≤ gv := (World.ownsRow.lt hr gv rfl).1
          have hne : g ≠ gv := by rintro rfl; rw [hgc] at hvc; simp at hvc; exact absurd hvc.2 (by decide)
          have S0 : wr.drew.cell? ⟨g, i * 2, none⟩ = some (.slice (some ⟨gv, 0, none⟩) M cp) ∧ wr.drew.cell? ⟨g, i * 2 + 1, none⟩ = some (.int .i64 (n : Int)) := ⟨d1', d2'⟩
          have HS1 : Hid (∀ z1, Below wr.drew.heap.size wr.drew z1 → z1.cell? ⟨g, i * 2, none⟩ = some (.slice (some ⟨gv, 0, none⟩) M cp) ∧ z1.cell? ⟨g, i * 2 + 1, none⟩ = some (.int .i64 (n : Int))) := fun z1 b1 => by
            have hgl2 := lt_of_blk hgc
            exact ⟨by rw [b1.cell (p := ⟨g, i * 2, none⟩) hgl2]; exact S0.1, by rw [b1.cell (p := ⟨g, i * 2 + 1, none⟩) hgl2]; exact S0.2⟩
          have hfz : Hid (∀ z1, Below wr.drew.heap.size wr.drew z1 → ∀ j, z1.frozen? ⟨gv, j, none⟩ = false) := fun z1 b1 j => frozen_of_blk0 (cs := curv) (t := 31) (by rw [b1.block gv hgl]; exact hvc) j
          have HS : Hid (∀ z1 z, Below wr.drew.heap.size wr.drew z1 → mkNumberRow n [.slice (some ⟨z, 0, none⟩) (rlen n) (rlen n)] → ∃ X2 : Nat → List Value, Ke kdNumberRow B (z1.setCell ⟨gv, k, none⟩ (.slice (some ⟨z, 0, none⟩) (rlen n) (rlen n))) (.slice (some ⟨g, 0, none⟩) N cap) es X2 ∧ (∀ j y, es[j]? = some y → j < i → Mks (mkNumberRow y.n) 1 y.m (X2 j)) ∧ (∃ pre' rest', X2 i = pre' ++ rest' ∧ Mks (mkNumberRow n) 1 (k + 1) pre') ∧ Tf [31] B w (z1.setCell ⟨gv, k, none⟩ (.slice (some ⟨z, 0, none⟩) (rlen n) (rlen n)))) := fun z1 z b1 hm => by
            have hr1 : z1.ownsRow B 31 1 (.slice (some ⟨gv, 0, none⟩) M cp) x.m (pre ++ rest) := own_keep hr (fun q hq => by rw [b1.block q (World.ownsRow.lt hr q hq).2]; rfl)
            have o0 := own_set hr1 (g := gv) rfl (j := k) (.slice (some ⟨z, 0, none⟩) (rlen n) (rlen n))
            rw [set1_at _  (by rw [hpl]; omega) hrl] at o0
            have hf : Fr [gv] z1 (z1.setCell ⟨gv, k, none⟩ (.slice (some ⟨z, 0, none⟩) (rlen n) (rlen n))) := fr_set1 z1 gv (k) (.slice (some ⟨z, 0, none⟩) (rlen n) (rlen n))
            have hK1 : Ke kdNumberRow B z1 (.slice (some ⟨g, 0, none⟩) N cap) es Xq := (hK.bw (w' := wr.drew) ⟨rfl, rfl, rfl, Nat.le_refl _, fun _ _ => rfl⟩).bw b1
            have hvc1 : z1.heap[gv]? = some (.cells curv 31 (0, 0)) := by rw [b1.block gv hgl]; exact hvc
            have hT1 : Tf [31] B w z1 := (hTf.drew).after b1 hB
            refine ⟨(fun j => if j = i then (pre ++ [.slice (some ⟨z, 0, none⟩) (rlen n) (rlen n)]) ++ rest.drop 1 else Xq j), hK1.put hx (by rw [hxv]; exact hf) (by rw [hxv]; exact o0) (by decide), fun j y hy hj => ?_, ⟨pre ++ [.slice (some ⟨z, 0, none⟩) (rlen n) (rlen n)], rest.drop 1, by simp, hpre.snoc rfl hm⟩, hT1.fr1 hf hvc1 (by simp) hBv⟩
            have : ¬ j = i := by omega
            simp only [this, if_false]
            exact hmk j y hy hj
          have hkM' : (k : Int) < (M : Int) := by omega
          have hk0 : (0 : Int) ≤ (k : Int) := by omega
          have e2q := unhide HC wr hTf
          have HGL := hide hgl
          clear hK hmk hXi hpre hTf hx hxv hMe hne_ hr hlen hpl hrl d1' d2' hgc hvc hBv hBg hsq hy0
          go_wp2_with fail
          first
          | go_region_held3 (fun w' : World => w'.cell? ⟨g, i * 2, none⟩ = some (.slice (some ⟨gv, 0, none⟩) M cp) ∧ w'.cell? ⟨g, i * 2 + 1, none⟩ = some (.int .i64 (n : Int))) (first | with_reducible exact S0 | with_reducible exact S1 | exact ⟨by rw [cell_set_other hne]; exact S1.1, by rw [cell_set_other hne]; exact S1.2⟩) (first
              | (go_at_call 213; refine (unhide K _).mono ?_; rintro e z1 ⟨z, rfl, hm, b1⟩; have S1 := unhide HS1 z1 b1; have hfz1 := unhide hfz z1 b1; have hgl := unhide HGL; have u0 : z1.cell? ⟨gv, k, none⟩ = some y0 := (by rw [b1.cell (p := ⟨gv, k, none⟩) hgl]; exact yc0); have v0 := hfz1 (k)) | fail)
          | fail
          all_goals
            obtain ⟨X2, HZ⟩ := unhide HS z1 z b1 hm
            have HZ2 := hide HZ
            clear S1 hfz1 hm b1 HZ
            go_wp2_with fail
            go_roundw
            case rel => exact ⟨k + 1, X2, by go_num, by omega, HZ2⟩
            case measure => simp only [intOf]; omega
        · obtain rfl : k = M := by omega
          have HX3 : Hid (Ke kdNumberRow B wr (.slice (some ⟨g, 0, none⟩) N cap) es Xq ∧ (∀ j x, es[j]? = some x → j < i + 1 → Mks (mkNumberRow x.n) 1 x.m (Xq j)) ∧ Tf [31] B w wr) := by
            obtain ⟨hK, hmk, ⟨pre, rest, hXi, hpre⟩, hTf⟩ := unhide hsq
            refine ⟨hK, fun j y hy hj => ?_, hTf⟩
            rcases Nat.lt_or_ge j i with c | c
            · exact hmk j y hy c
            · obtain rfl : j = i := by omega
              obtain ⟨hx, -⟩ := unhide HX
              rw [hx] at hy
              cases hy
              have hr := hK.row j x hx
              rw [hXi] at hr
              have hlen : (pre ++ rest).length = x.m * 1 := hr.1
              have hpl := hpre.len
              obtain ⟨hMe, hne_⟩ := unhide HMn
              have : rest = [] := List.eq_nil_of_length_eq_zero (by simp at hlen; rw [hMe] at hpl; omega)
              subst this
              rw [hXi, List.append_nil, ← hMe, ← hne_]
              exact hpre
          clear hsq
          go_wp2_with fail
          go_roundw
          case rel => exact ⟨i + 1, Xq, by go_num, by omega, HX3⟩
          case measure => simp only [intOf]; omega
    · obtain rfl : i = N := by omega
      go_wp2_with fail
      go_end0
      refine ⟨rfl, ⟨X', (unhide hst).1, fun j x hx => (unhide hst).2.1 j x hx ?_⟩, (unhide hst).2.2⟩
      rw [unhide HN]; exact (List.getElem?_eq_some_iff.1 hx).1
end Go.Proofs.YtaanacnloljlmaaGreatDoor
