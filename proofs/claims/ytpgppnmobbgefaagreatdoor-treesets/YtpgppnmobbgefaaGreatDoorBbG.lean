/- Texts joined: BoFNumber BoFNode. -/
import Derived.Test.YtpgppnmobbgefaaGreatDoorBbF
import Derived.Test.YtpgppnmobbgefaaGreatDoorTtE
/- The contract of fillNumber of a Book: each kept list is marks then. -/
namespace Go.Proofs.YtpgppnmobbgefaaGreatDoor
open Go.RowKit Go.Maps

theorem markNumber_b (n : Nat) (w : World) (h : n ≤ 1048576) : Calls Tryz.prog 178 #[.int .i64 (n : Int)] w fun e w' => ∃ z, e = .returned (.int .i64 z) ∧ mkNumber n [.int .i64 z] ∧ Below w.heap.size w w' := (markint_any n w (by omega)).mono (fun e w' h => ⟨mkI n, h.1, rfl, by rw [h.2]; exact Below.refl _ _⟩)
set_option maxRecDepth 100000 in
set_option maxHeartbeats 4000000 in
theorem fillNumber_b (B b : Nat) (cnt : Int) (F : Nat → Value) (es : List Ent) (X : Nat → List Value) (w : World) (hb : w.heap[b]? = some (.cells (bookF cnt F) 70 (0, 0))) (h : Ke kdNumber B w (F 2) es X) (hB : B ≤ w.heap.size) (hN : es.length ≤ 1048576) (hes : ∀ x ∈ es, x.n ≤ 1048576 ∧ x.m ≤ 1048576) :
    Calls Tryz.prog 55 #[.pointer (some ⟨b, 0, none⟩)] w fun e w' => e = .returned (.tuple #[]) ∧ (∃ X', Ke kdNumber B w' (F 2) es X' ∧ ∀ i x, es[i]? = some x → Mks (mkNumber x.n) 1 x.m (X' i)) ∧ Tf [3] B w w' := by
  have c2 := book_cell hb (k := 2) (by decide) (by decide)
  obtain ⟨a, cap, hF⟩ := h.form
  rw [hF] at c2 h ⊢
  have HC : Hid (∀ w', Tf [3] B w w' → w'.cell? ⟨b, 2, none⟩ = some (.slice a es.length cap)) := fun w' ht => by
    have := book_cell (ht.blk hb (by decide)) (k := 2) (by decide) (by decide)
    rw [hF] at this; exact this
  have HL := hide (And.intro h hes)
  have hNI : ((es.length : Nat) : Int) ≤ 1048576 := by omega
  clear hF h hes hb hN
  obtain ⟨N, hN⟩ : ∃ N, N = es.length := ⟨_, rfl⟩
  rw [← hN] at c2 HC HL hNI ⊢
  have HN := hide hN
  clear hN
  go_enter Tryz.func55, Tryz.ntmps55
  go_wp2_with fail
  go_loopw [10] (fun iv wr => ∃ (i : Nat) (X' : Nat → List Value), iv = .int .i64 (i : Int) ∧ i ≤ N ∧ Hid (Ke kdNumber B wr (.slice a N cap) es X' ∧ (∀ j x, es[j]? = some x → j < i → Mks (mkNumber x.n) 1 x.m (X' j)) ∧ Tf [3] B w wr)) (fun iv _ => (N - intOf iv).toNat)
  case atStart => exact ⟨0, X, rfl, by omega, ⟨(unhide HL).1, fun j x _ hj => by omega, Tf.refl _ _ _⟩⟩
  case round =>
    obtain ⟨i, X', rfl, hi, hst⟩ := hrel
    by_cases hin : i < N
    · obtain ⟨x, hx⟩ : ∃ x, es[i]? = some x := ⟨_, List.getElem?_eq_getElem (by rw [← unhide HN]; exact hin)⟩
      obtain ⟨hxn, hxm⟩ := (unhide HL).2 x (List.mem_of_getElem? hx)
      obtain ⟨g, rfl, hBg, d1, d2, -, -⟩ := (unhide hst).1.entry hx
      obtain ⟨p, cp, hxv⟩ := own_slice ((unhide hst).1.row i x hx)
      rw [hxv] at d1
      have e2 := unhide HC wr (unhide hst).2.2
      have hiN : (i : Int) < (N : Int) := by omega
      have hi0 : (0 : Int) ≤ (i : Int) := by omega
      have K := hide (fun w' => markNumber_b x.n w' hxn)
      have HX := hide (And.intro hx hxv)
      have hMI : ((x.m : Nat) : Int) ≤ 1048576 := by omega
      obtain ⟨M, hM⟩ : ∃ M, M = x.m := ⟨_, rfl⟩
      obtain ⟨n, hn⟩ : ∃ n, n = x.n := ⟨_, rfl⟩
      have hst2 : Hid (Ke kdNumber B wr (.slice (some ⟨g, 0, none⟩) N cap) es X' ∧ (∀ j y, es[j]? = some y → j < i → Mks (mkNumber y.n) 1 y.m (X' j)) ∧ (∃ pre rest, X' i = pre ++ rest ∧ Mks (mkNumber n) 1 0 pre) ∧ Tf [3] B w wr) := ⟨(unhide hst).1, (unhide hst).2.1, ⟨[], X' i, rfl, Mks.nil _ _⟩, (unhide hst).2.2⟩
      rw [← hM] at d1 HX hMI
      rw [← hn] at d2 K
      have HMn := hide (And.intro hM hn)
      clear hx hxn hxm hBg hxv hst hM hn
      go_wp2_with fail
      go_loopw [24] (fun kv wq => ∃ (k : Nat) (X' : Nat → List Value), kv = .int .i64 (k : Int) ∧ k ≤ M ∧ Hid (Ke kdNumber B wq (.slice (some ⟨g, 0, none⟩) N cap) es X' ∧ (∀ j y, es[j]? = some y → j < i → Mks (mkNumber y.n) 1 y.m (X' j)) ∧ (∃ pre rest, X' i = pre ++ rest ∧ Mks (mkNumber n) 1 k pre) ∧ Tf [3] B w wq)) (fun kv _ => (M - intOf kv).toNat)
      case atStart => exact ⟨0, X', rfl, by omega, hst2⟩
      case round =>
        clear hst2
        obtain ⟨k, Xq, rfl, hk, hsq⟩ := hrel
        by_cases hkM : k < M
        · obtain ⟨hK, hmk, ⟨pre, rest, hXi, hpre⟩, hTf⟩ := unhide hsq
          obtain ⟨hx, hxv⟩ := unhide HX
          obtain ⟨hMe, hne_⟩ := unhide HMn
          have hr := hK.row i x hx
          rw [hXi] at hr
          have hlen : (pre ++ rest).length = x.m * 1 := hr.1
          have hpl := hpre.len
          have hrl : 1 ≤ rest.length := by simp at hlen; omega
          obtain ⟨gv, cp', e1, hgl, -, -⟩ := own_open hr (by omega)
          rw [hxv] at e1
          simp only [Value.slice.injEq] at e1
          obtain ⟨e1a, -, -⟩ := e1
          subst e1a
          rw [hxv] at hr
          obtain ⟨y0, hy0⟩ : ∃ y, (pre ++ rest)[k]? = some y := ⟨_, List.getElem?_eq_getElem (by omega)⟩
          have yc0 := own_cell hr rfl hy0
          obtain ⟨g', e', hBg, d1', d2', -, cur, hgc⟩ := hK.entry hx
          cases e'
          rw [hxv] at d1'
          rw [← hne_] at d2'
          obtain ⟨curv, hvc⟩ := own_kind hr (k := gv) rfl
          have hBv : B ≤ gv := (World.ownsRow.lt hr gv rfl).1
          have hne : g ≠ gv := by rintro rfl; rw [hgc] at hvc; simp at hvc; exact absurd hvc.2 (by decide)
          have S0 : wr.drew.cell? ⟨g, i * 2, none⟩ = some (.slice (some ⟨gv, 0, none⟩) M cp) ∧ wr.drew.cell? ⟨g, i * 2 + 1, none⟩ = some (.int .i64 (n : Int)) := ⟨d1', d2'⟩
          have HS1 : Hid (∀ z1, Below wr.drew.heap.size wr.drew z1 → z1.cell? ⟨g, i * 2, none⟩ = some (.slice (some ⟨gv, 0, none⟩) M cp) ∧ z1.cell? ⟨g, i * 2 + 1, none⟩ = some (.int .i64 (n : Int))) := fun z1 b1 => by
            have hgl2 := lt_of_blk hgc
            exact ⟨by rw [b1.cell (p := ⟨g, i * 2, none⟩) hgl2]; exact S0.1, by rw [b1.cell (p := ⟨g, i * 2 + 1, none⟩) hgl2]; exact S0.2⟩
          have hfz : Hid (∀ z1, Below wr.drew.heap.size wr.drew z1 → ∀ j, z1.frozen? ⟨gv, j, none⟩ = false) := fun z1 b1 j => frozen_of_blk0 (cs := curv) (t := 3) (by rw [b1.block gv hgl]; exact hvc) j
          have HS : Hid (∀ z1 z, Below wr.drew.heap.size wr.drew z1 → mkNumber n [.int .i64 z] → ∃ X2 : Nat → List Value, Ke kdNumber B (z1.setCell ⟨gv, k, none⟩ (.int .i64 z)) (.slice (some ⟨g, 0, none⟩) N cap) es X2 ∧ (∀ j y, es[j]? = some y → j < i → Mks (mkNumber y.n) 1 y.m (X2 j)) ∧ (∃ pre' rest', X2 i = pre' ++ rest' ∧ Mks (mkNumber n) 1 (k + 1) pre') ∧ Tf [3] B w (z1.setCell ⟨gv, k, none⟩ (.int .i64 z))) := fun z1 z b1 hm => by
            have hr1 : z1.ownsRow B 3 1 (.slice (some ⟨gv, 0, none⟩) M cp) x.m (pre ++ rest) := own_keep hr (fun q hq => by rw [b1.block q (World.ownsRow.lt hr q hq).2]; rfl)
            have o0 := own_set hr1 (g := gv) rfl (j := k) (.int .i64 z)
            rw [set1_at _  (by rw [hpl]; omega) hrl] at o0
            have hf : Fr [gv] z1 (z1.setCell ⟨gv, k, none⟩ (.int .i64 z)) := fr_set1 z1 gv (k) (.int .i64 z)
            have hK1 : Ke kdNumber B z1 (.slice (some ⟨g, 0, none⟩) N cap) es Xq := (hK.bw (w' := wr.drew) ⟨rfl, rfl, rfl, Nat.le_refl _, fun _ _ => rfl⟩).bw b1
            have hvc1 : z1.heap[gv]? = some (.cells curv 3 (0, 0)) := by rw [b1.block gv hgl]; exact hvc
            have hT1 : Tf [3] B w z1 := (hTf.drew).after b1 hB
            refine ⟨(fun j => if j = i then (pre ++ [.int .i64 z]) ++ rest.drop 1 else Xq j), hK1.put hx (by rw [hxv]; exact hf) (by rw [hxv]; exact o0) (by decide), fun j y hy hj => ?_, ⟨pre ++ [.int .i64 z], rest.drop 1, by simp, hpre.snoc rfl hm⟩, hT1.fr1 hf hvc1 (by simp) hBv⟩
            have : ¬ j = i := by omega
            simp only [this, if_false]
            exact hmk j y hy hj
          have hkM' : (k : Int) < (M : Int) := by omega
          have hk0 : (0 : Int) ≤ (k : Int) := by omega
          have e2q := unhide HC wr hTf
          have HGL := hide hgl
          clear hK hmk hXi hpre hTf hx hxv hMe hne_ hr hlen hpl hrl d1' d2' hgc hvc hBv hBg hsq hy0
          go_wp2_with fail
          first
          | go_region_held3 (fun w' : World => w'.cell? ⟨g, i * 2, none⟩ = some (.slice (some ⟨gv, 0, none⟩) M cp) ∧ w'.cell? ⟨g, i * 2 + 1, none⟩ = some (.int .i64 (n : Int))) (first | with_reducible exact S0 | with_reducible exact S1 | exact ⟨by rw [cell_set_other hne]; exact S1.1, by rw [cell_set_other hne]; exact S1.2⟩) (first
              | (go_at_call 178; refine (unhide K _).mono ?_; rintro e z1 ⟨z, rfl, hm, b1⟩; have S1 := unhide HS1 z1 b1; have hfz1 := unhide hfz z1 b1; have hgl := unhide HGL; have u0 : z1.cell? ⟨gv, k, none⟩ = some y0 := (by rw [b1.cell (p := ⟨gv, k, none⟩) hgl]; exact yc0); have v0 := hfz1 (k)) | fail)
          | fail
          all_goals
            obtain ⟨X2, HZ⟩ := unhide HS z1 z b1 hm
            have HZ2 := hide HZ
            clear S1 hfz1 hm b1 HZ
            go_wp2_with fail
            go_roundw
            case rel => exact ⟨k + 1, X2, by go_num, by omega, HZ2⟩
            case measure => simp only [intOf]; omega
        · obtain rfl : k = M := by omega
          have HX3 : Hid (Ke kdNumber B wr (.slice (some ⟨g, 0, none⟩) N cap) es Xq ∧ (∀ j x, es[j]? = some x → j < i + 1 → Mks (mkNumber x.n) 1 x.m (Xq j)) ∧ Tf [3] B w wr) := by
            obtain ⟨hK, hmk, ⟨pre, rest, hXi, hpre⟩, hTf⟩ := unhide hsq
            refine ⟨hK, fun j y hy hj => ?_, hTf⟩
            rcases Nat.lt_or_ge j i with c | c
            · exact hmk j y hy c
            · obtain rfl : j = i := by omega
              obtain ⟨hx, -⟩ := unhide HX
              rw [hx] at hy
              cases hy
              have hr := hK.row j x hx
              rw [hXi] at hr
              have hlen : (pre ++ rest).length = x.m * 1 := hr.1
              have hpl := hpre.len
              obtain ⟨hMe, hne_⟩ := unhide HMn
              have : rest = [] := List.eq_nil_of_length_eq_zero (by simp at hlen; rw [hMe] at hpl; omega)
              subst this
              rw [hXi, List.append_nil, ← hMe, ← hne_]
              exact hpre
          clear hsq
          go_wp2_with fail
          go_roundw
          case rel => exact ⟨i + 1, Xq, by go_num, by omega, HX3⟩
          case measure => simp only [intOf]; omega
    · obtain rfl : i = N := by omega
      go_wp2_with fail
      go_end0
      refine ⟨rfl, ⟨X', (unhide hst).1, fun j x hx => (unhide hst).2.1 j x hx ?_⟩, (unhide hst).2.2⟩
      rw [unhide HN]; exact (List.getElem?_eq_some_iff.1 hx).1
end Go.Proofs.YtpgppnmobbgefaaGreatDoor

/- The contract of fillNode of a Book: each kept list is marks then. -/
namespace Go.Proofs.YtpgppnmobbgefaaGreatDoor
open Go.RowKit Go.Maps

theorem markNode_b (n : Nat) (w : World) (h : n ≤ 1048576) : Calls Tryz.prog 183 #[.int .i64 (n : Int)] w fun e w' => ∃ z, e = .returned (.agg #[.int .i64 z, .int .i64 0, .int .i64 0, .slice none 0 0]) ∧ mkNode n [.int .i64 z, .int .i64 0, .int .i64 0, .slice none 0 0] ∧ Below w.heap.size w w' := (markNode_any n w (by omega)).mono (fun e w' h => ⟨mkI n, h.1, rfl, h.2⟩)
set_option maxRecDepth 100000 in
set_option maxHeartbeats 4000000 in
theorem fillNode_b (B b : Nat) (cnt : Int) (F : Nat → Value) (es : List Ent) (X : Nat → List Value) (w : World) (hb : w.heap[b]? = some (.cells (bookF cnt F) 70 (0, 0))) (h : Ke kdNode B w (F 19) es X) (hB : B ≤ w.heap.size) (hN : es.length ≤ 1048576) (hes : ∀ x ∈ es, x.n ≤ 1048576 ∧ x.m ≤ 1048576) :
    Calls Tryz.prog 72 #[.pointer (some ⟨b, 0, none⟩)] w fun e w' => e = .returned (.tuple #[]) ∧ (∃ X', Ke kdNode B w' (F 19) es X' ∧ ∀ i x, es[i]? = some x → Mks (mkNode x.n) 4 x.m (X' i)) ∧ Tf [95] B w w' := by
  have c2 := book_cell hb (k := 19) (by decide) (by decide)
  obtain ⟨a, cap, hF⟩ := h.form
  rw [hF] at c2 h ⊢
  have HC : Hid (∀ w', Tf [95] B w w' → w'.cell? ⟨b, 19, none⟩ = some (.slice a es.length cap)) := fun w' ht => by
    have := book_cell (ht.blk hb (by decide)) (k := 19) (by decide) (by decide)
    rw [hF] at this; exact this
  have HL := hide (And.intro h hes)
  have hNI : ((es.length : Nat) : Int) ≤ 1048576 := by omega
  clear hF h hes hb hN
  obtain ⟨N, hN⟩ : ∃ N, N = es.length := ⟨_, rfl⟩
  rw [← hN] at c2 HC HL hNI ⊢
  have HN := hide hN
  clear hN
  go_enter Tryz.func72, Tryz.ntmps72
  go_wp2_with fail
  go_loopw [10] (fun iv wr => ∃ (i : Nat) (X' : Nat → List Value), iv = .int .i64 (i : Int) ∧ i ≤ N ∧ Hid (Ke kdNode B wr (.slice a N cap) es X' ∧ (∀ j x, es[j]? = some x → j < i → Mks (mkNode x.n) 4 x.m (X' j)) ∧ Tf [95] B w wr)) (fun iv _ => (N - intOf iv).toNat)
  case atStart => exact ⟨0, X, rfl, by omega, ⟨(unhide HL).1, fun j x _ hj => by omega, Tf.refl _ _ _⟩⟩
  case round =>
    obtain ⟨i, X', rfl, hi, hst⟩ := hrel
    by_cases hin : i < N
    · obtain ⟨x, hx⟩ : ∃ x, es[i]? = some x := ⟨_, List.getElem?_eq_getElem (by rw [← unhide HN]; exact hin)⟩
      obtain ⟨hxn, hxm⟩ := (unhide HL).2 x (List.mem_of_getElem? hx)
      obtain ⟨g, rfl, hBg, d1, d2, -, -⟩ := (unhide hst).1.entry hx
      obtain ⟨p, cp, hxv⟩ := own_slice ((unhide hst).1.row i x hx)
      rw [hxv] at d1
      have e2 := unhide HC wr (unhide hst).2.2
      have hiN : (i : Int) < (N : Int) := by omega
      have hi0 : (0 : Int) ≤ (i : Int) := by omega
      have K := hide (fun w' => markNode_b x.n w' hxn)
      have HX := hide (And.intro hx hxv)
      have hMI : ((x.m : Nat) : Int) ≤ 1048576 := by omega
      obtain ⟨M, hM⟩ : ∃ M, M = x.m := ⟨_, rfl⟩
      obtain ⟨n, hn⟩ : ∃ n, n = x.n := ⟨_, rfl⟩
      have hst2 : Hid (Ke kdNode B wr (.slice (some ⟨g, 0, none⟩) N cap) es X' ∧ (∀ j y, es[j]? = some y → j < i → Mks (mkNode y.n) 4 y.m (X' j)) ∧ (∃ pre rest, X' i = pre ++ rest ∧ Mks (mkNode n) 4 0 pre) ∧ Tf [95] B w wr) := ⟨(unhide hst).1, (unhide hst).2.1, ⟨[], X' i, rfl, Mks.nil _ _⟩, (unhide hst).2.2⟩
      rw [← hM] at d1 HX hMI
      rw [← hn] at d2 K
      have HMn := hide (And.intro hM hn)
      clear hx hxn hxm hBg hxv hst hM hn
      go_wp2_with fail
      go_loopw [24] (fun kv wq => ∃ (k : Nat) (X' : Nat → List Value), kv = .int .i64 (k : Int) ∧ k ≤ M ∧ Hid (Ke kdNode B wq (.slice (some ⟨g, 0, none⟩) N cap) es X' ∧ (∀ j y, es[j]? = some y → j < i → Mks (mkNode y.n) 4 y.m (X' j)) ∧ (∃ pre rest, X' i = pre ++ rest ∧ Mks (mkNode n) 4 k pre) ∧ Tf [95] B w wq)) (fun kv _ => (M - intOf kv).toNat)
      case atStart => exact ⟨0, X', rfl, by omega, hst2⟩
      case round =>
        clear hst2
        obtain ⟨k, Xq, rfl, hk, hsq⟩ := hrel
        by_cases hkM : k < M
        · obtain ⟨hK, hmk, ⟨pre, rest, hXi, hpre⟩, hTf⟩ := unhide hsq
          obtain ⟨hx, hxv⟩ := unhide HX
          obtain ⟨hMe, hne_⟩ := unhide HMn
          have hr := hK.row i x hx
          rw [hXi] at hr
          have hlen : (pre ++ rest).length = x.m * 4 := hr.1
          have hpl := hpre.len
          have hrl : 4 ≤ rest.length := by simp at hlen; omega
          obtain ⟨gv, cp', e1, hgl, -, -⟩ := own_open hr (by omega)
          rw [hxv] at e1
          simp only [Value.slice.injEq] at e1
          obtain ⟨e1a, -, -⟩ := e1
          subst e1a
          rw [hxv] at hr
          obtain ⟨y0, hy0⟩ : ∃ y, (pre ++ rest)[k * 4]? = some y := ⟨_, List.getElem?_eq_getElem (by omega)⟩
          obtain ⟨y1, hy1⟩ : ∃ y, (pre ++ rest)[k * 4 + 1]? = some y := ⟨_, List.getElem?_eq_getElem (by omega)⟩
          obtain ⟨y2, hy2⟩ : ∃ y, (pre ++ rest)[k * 4 + 2]? = some y := ⟨_, List.getElem?_eq_getElem (by omega)⟩
          obtain ⟨y3, hy3⟩ : ∃ y, (pre ++ rest)[k * 4 + 3]? = some y := ⟨_, List.getElem?_eq_getElem (by omega)⟩
          have yc0 := own_cell hr rfl hy0; have yc1 := own_cell hr rfl hy1; have yc2 := own_cell hr rfl hy2; have yc3 := own_cell hr rfl hy3
          obtain ⟨g', e', hBg, d1', d2', -, cur, hgc⟩ := hK.entry hx
          cases e'
          rw [hxv] at d1'
          rw [← hne_] at d2'
          obtain ⟨curv, hvc⟩ := own_kind hr (k := gv) rfl
          have hBv : B ≤ gv := (World.ownsRow.lt hr gv rfl).1
          have hne : g ≠ gv := by rintro rfl; rw [hgc] at hvc; simp at hvc; exact absurd hvc.2 (by decide)
          have S0 : wr.drew.cell? ⟨g, i * 2, none⟩ = some (.slice (some ⟨gv, 0, none⟩) M cp) ∧ wr.drew.cell? ⟨g, i * 2 + 1, none⟩ = some (.int .i64 (n : Int)) := ⟨d1', d2'⟩
          have HS1 : Hid (∀ z1, Below wr.drew.heap.size wr.drew z1 → z1.cell? ⟨g, i * 2, none⟩ = some (.slice (some ⟨gv, 0, none⟩) M cp) ∧ z1.cell? ⟨g, i * 2 + 1, none⟩ = some (.int .i64 (n : Int))) := fun z1 b1 => by
            have hgl2 := lt_of_blk hgc
            exact ⟨by rw [b1.cell (p := ⟨g, i * 2, none⟩) hgl2]; exact S0.1, by rw [b1.cell (p := ⟨g, i * 2 + 1, none⟩) hgl2]; exact S0.2⟩
          have hfz : Hid (∀ z1, Below wr.drew.heap.size wr.drew z1 → ∀ j, z1.frozen? ⟨gv, j, none⟩ = false) := fun z1 b1 j => frozen_of_blk0 (cs := curv) (t := 95) (by rw [b1.block gv hgl]; exact hvc) j
          have HS : Hid (∀ z1 z, Below wr.drew.heap.size wr.drew z1 → mkNode n [.int .i64 z, .int .i64 0, .int .i64 0, .slice none 0 0] → ∃ X2 : Nat → List Value, Ke kdNode B ((((z1.setCell ⟨gv, k * 4, none⟩ (.int .i64 z)).setCell ⟨gv, k * 4 + 1, none⟩ (.int .i64 0)).setCell ⟨gv, k * 4 + 2, none⟩ (.int .i64 0)).setCell ⟨gv, k * 4 + 3, none⟩ (.slice none 0 0)) (.slice (some ⟨g, 0, none⟩) N cap) es X2 ∧ (∀ j y, es[j]? = some y → j < i → Mks (mkNode y.n) 4 y.m (X2 j)) ∧ (∃ pre' rest', X2 i = pre' ++ rest' ∧ Mks (mkNode n) 4 (k + 1) pre') ∧ Tf [95] B w ((((z1.setCell ⟨gv, k * 4, none⟩ (.int .i64 z)).setCell ⟨gv, k * 4 + 1, none⟩ (.int .i64 0)).setCell ⟨gv, k * 4 + 2, none⟩ (.int .i64 0)).setCell ⟨gv, k * 4 + 3, none⟩ (.slice none 0 0))) := fun z1 z b1 hm => by
            have hr1 : z1.ownsRow B 95 4 (.slice (some ⟨gv, 0, none⟩) M cp) x.m (pre ++ rest) := own_keep hr (fun q hq => by rw [b1.block q (World.ownsRow.lt hr q hq).2]; rfl)
            have o0 := own_set hr1 (g := gv) rfl (j := k * 4) (.int .i64 z)
            have o1 := own_set o0 (g := gv) rfl (j := k * 4 + 1) (.int .i64 0)
            have o2 := own_set o1 (g := gv) rfl (j := k * 4 + 2) (.int .i64 0)
            have o3 := own_set o2 (g := gv) rfl (j := k * 4 + 3) (.slice none 0 0)
            rw [set4_at _ _ _ _ (by rw [hpl]) hrl] at o3
            have hf : Fr [gv] z1 ((((z1.setCell ⟨gv, k * 4, none⟩ (.int .i64 z)).setCell ⟨gv, k * 4 + 1, none⟩ (.int .i64 0)).setCell ⟨gv, k * 4 + 2, none⟩ (.int .i64 0)).setCell ⟨gv, k * 4 + 3, none⟩ (.slice none 0 0)) := fr_set4 z1 gv (k * 4) (.int .i64 z) (.int .i64 0) (.int .i64 0) (.slice none 0 0)
            have hK1 : Ke kdNode B z1 (.slice (some ⟨g, 0, none⟩) N cap) es Xq := (hK.bw (w' := wr.drew) ⟨rfl, rfl, rfl, Nat.le_refl _, fun _ _ => rfl⟩).bw b1
            have hvc1 : z1.heap[gv]? = some (.cells curv 95 (0, 0)) := by rw [b1.block gv hgl]; exact hvc
            have hT1 : Tf [95] B w z1 := (hTf.drew).after b1 hB
            refine ⟨(fun j => if j = i then (pre ++ [.int .i64 z, .int .i64 0, .int .i64 0, .slice none 0 0]) ++ rest.drop 4 else Xq j), hK1.put hx (by rw [hxv]; exact hf) (by rw [hxv]; exact o3) (by decide), fun j y hy hj => ?_, ⟨pre ++ [.int .i64 z, .int .i64 0, .int .i64 0, .slice none 0 0], rest.drop 4, by simp, hpre.snoc rfl hm⟩, hT1.fr1 hf hvc1 (by simp) hBv⟩
            have : ¬ j = i := by omega
            simp only [this, if_false]
            exact hmk j y hy hj
          have hkM' : (k : Int) < (M : Int) := by omega
          have hk0 : (0 : Int) ≤ (k : Int) := by omega
          have e2q := unhide HC wr hTf
          have HGL := hide hgl
          clear hK hmk hXi hpre hTf hx hxv hMe hne_ hr hlen hpl hrl d1' d2' hgc hvc hBv hBg hsq hy0 hy1 hy2 hy3
          go_wp2_with fail
          first
          | go_region_held3 (fun w' : World => w'.cell? ⟨g, i * 2, none⟩ = some (.slice (some ⟨gv, 0, none⟩) M cp) ∧ w'.cell? ⟨g, i * 2 + 1, none⟩ = some (.int .i64 (n : Int))) (first | with_reducible exact S0 | with_reducible exact S1 | exact ⟨by rw [cell_set_other hne, cell_set_other hne, cell_set_other hne, cell_set_other hne]; exact S1.1, by rw [cell_set_other hne, cell_set_other hne, cell_set_other hne, cell_set_other hne]; exact S1.2⟩) (first
              | (go_at_call 183; refine (unhide K _).mono ?_; rintro e z1 ⟨z, rfl, hm, b1⟩; have S1 := unhide HS1 z1 b1; have hfz1 := unhide hfz z1 b1; have hgl := unhide HGL; have u0 : z1.cell? ⟨gv, k * 4, none⟩ = some y0 := (by rw [b1.cell (p := ⟨gv, k * 4, none⟩) hgl]; exact yc0); have u1 : z1.cell? ⟨gv, k * 4 + 1, none⟩ = some y1 := (by rw [b1.cell (p := ⟨gv, k * 4 + 1, none⟩) hgl]; exact yc1); have u2 : z1.cell? ⟨gv, k * 4 + 2, none⟩ = some y2 := (by rw [b1.cell (p := ⟨gv, k * 4 + 2, none⟩) hgl]; exact yc2); have u3 : z1.cell? ⟨gv, k * 4 + 3, none⟩ = some y3 := (by rw [b1.cell (p := ⟨gv, k * 4 + 3, none⟩) hgl]; exact yc3); have v0 := hfz1 (k * 4); have v1 := hfz1 (k * 4 + 1); have v2 := hfz1 (k * 4 + 2); have v3 := hfz1 (k * 4 + 3)) | fail)
          | fail
          all_goals
            obtain ⟨X2, HZ⟩ := unhide HS z1 z b1 hm
            have HZ2 := hide HZ
            clear S1 hfz1 hm b1 HZ
            go_wp2_with fail
            go_roundw
            case rel => exact ⟨k + 1, X2, by go_num, by omega, HZ2⟩
            case measure => simp only [intOf]; omega
        · obtain rfl : k = M := by omega
          have HX3 : Hid (Ke kdNode B wr (.slice (some ⟨g, 0, none⟩) N cap) es Xq ∧ (∀ j x, es[j]? = some x → j < i + 1 → Mks (mkNode x.n) 4 x.m (Xq j)) ∧ Tf [95] B w wr) := by
            obtain ⟨hK, hmk, ⟨pre, rest, hXi, hpre⟩, hTf⟩ := unhide hsq
            refine ⟨hK, fun j y hy hj => ?_, hTf⟩
            rcases Nat.lt_or_ge j i with c | c
            · exact hmk j y hy c
            · obtain rfl : j = i := by omega
              obtain ⟨hx, -⟩ := unhide HX
              rw [hx] at hy
              cases hy
              have hr := hK.row j x hx
              rw [hXi] at hr
              have hlen : (pre ++ rest).length = x.m * 4 := hr.1
              have hpl := hpre.len
              obtain ⟨hMe, hne_⟩ := unhide HMn
              have : rest = [] := List.eq_nil_of_length_eq_zero (by simp at hlen; rw [hMe] at hpl; omega)
              subst this
              rw [hXi, List.append_nil, ← hMe, ← hne_]
              exact hpre
          clear hsq
          go_wp2_with fail
          go_roundw
          case rel => exact ⟨i + 1, Xq, by go_num, by omega, HX3⟩
          case measure => simp only [intOf]; omega
    · obtain rfl : i = N := by omega
      go_wp2_with fail
      go_end0
      refine ⟨rfl, ⟨X', (unhide hst).1, fun j x hx => (unhide hst).2.1 j x hx ?_⟩, (unhide hst).2.2⟩
      rw [unhide HN]; exact (List.getElem?_eq_some_iff.1 hx).1
end Go.Proofs.YtpgppnmobbgefaaGreatDoor
