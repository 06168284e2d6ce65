/- Texts joined: RoBk BoFCard BoGCard BoLCard BoKCard RoBn. -/
import Derived.Test.YtihniafidgjlcaaGreatDoorBoB
import Derived.Test.YtihniafidgjlcaaGreatDoorRoT
/- Cards as a kind of a Book. No walk is in this text. mkRoBk.py writes it. -/
namespace Go.Proofs.YtihniafidgjlcaaGreatDoor
open Go.RowKit Go.Maps
def kdCard : Kd := ⟨44, 147, 3⟩
def mkCard (n : Nat) (l : List Value) : Prop := l = [.int .i64 (mkI n), .int .i64 0, .int .i64 0]
theorem oneCard (z : Int) : ∀ u ∈ [Value.int .i64 z, .int .i64 0, .int .i64 0], u.oneCell' = true := by
  intro u hu
  simp only [List.mem_cons, List.not_mem_nil, or_false] at hu
  rcases hu with rfl | rfl | rfl <;> rfl
theorem set3_at {pre rest : List Value} {p : Nat} (a b c : Value) (hp : pre.length = p) (hr : 3 ≤ rest.length) : (((pre ++ rest).set p a).set (p + 1) b).set (p + 2) c = (pre ++ [a, b, c]) ++ rest.drop 3 := by
  match rest, hr with
  | r0 :: r1 :: r2 :: rest, _ =>
    rw [List.set_append_right _ _ (by omega), List.set_append_right _ _ (by omega), List.set_append_right _ _ (by omega), hp, Nat.sub_self, Nat.add_sub_cancel_left, Nat.add_sub_cancel_left]
    simp
theorem fr_set3 (w : World) (g p : Nat) (a b c : Value) : Fr [g] w (((w.setCell ⟨g, p, none⟩ a).setCell ⟨g, p + 1, none⟩ b).setCell ⟨g, p + 2, none⟩ c) :=
  ((fr_set1 w g p a).setCell (a := ⟨g, p + 1, none⟩) (Or.inr (by simp)) _).setCell (a := ⟨g, p + 2, none⟩) (Or.inr (by simp)) _
theorem cells_newB3 (w : World) (a b c : Value) (t : TypeId) : ∀ j u, [a, b, c][j]? = some u → (w.alloc (.cells #[a, b, c] t)).cell? ((⟨w.heap.size, 0, none⟩ : Addr).add j) = some u := fun j u hj => by
  have h := heap_alloc_new w (.cells #[a, b, c] t)
  match j, hj with
  | 0, hj => simp at hj; subst hj; exact cell_of_blk h rfl
  | 1, hj => simp at hj; subst hj; exact cell_of_blk (o := 1) h rfl
  | 2, hj => simp at hj; subst hj; exact cell_of_blk (o := 2) h rfl
  | j + 3, hj => simp at hj
theorem markCard_any (n : Nat) (w : World) (h : n ≤ 1100000) :
    Calls Tryz.prog 44 #[.int .i64 (n : Int)] w fun e w' => e = .returned (.agg #[.int .i64 (mkI n), .int .i64 0, .int .i64 0]) ∧ Below w.heap.size w w' := markCards_any n w (by omega)
theorem isCard_any (n : Nat) (w : World) (h : n ≤ 1100000) :
    Calls Tryz.prog 51 #[.agg #[.int .i64 (mkI n), .int .i64 0, .int .i64 0], .int .i64 (n : Int)] w fun e w' => e = .returned (.bool true) ∧ Below w.heap.size w w' := isCards_any n w (by omega)
end Go.Proofs.YtihniafidgjlcaaGreatDoor

/- The contract of fillCard of a Book: each kept list is marks then. -/
namespace Go.Proofs.YtihniafidgjlcaaGreatDoor
open Go.RowKit Go.Maps
theorem markCard_b (n : Nat) (w : World) (h : n ≤ 1048576) : Calls Tryz.prog 44 #[.int .i64 (n : Int)] w fun e w' => ∃ z, e = .returned (.agg #[.int .i64 z, .int .i64 0, .int .i64 0]) ∧ mkCard n [.int .i64 z, .int .i64 0, .int .i64 0] ∧ Below w.heap.size w w' := (markCard_any n w (by omega)).mono (fun e w' h => ⟨mkI n, h.1, rfl, h.2⟩)
set_option maxRecDepth 100000 in
set_option maxHeartbeats 4000000 in
theorem fillCard_b (B b : Nat) (cnt : Int) (F : Nat → Value) (es : List Ent) (X : Nat → List Value) (w : World) (hb : w.heap[b]? = some (.cells (bookF cnt F) 98 (0, 0))) (h : Ke kdCard B w (F 11) es X) (hB : B ≤ w.heap.size) (hN : es.length ≤ 1048576) (hes : ∀ x ∈ es, x.n ≤ 1048576 ∧ x.m ≤ 1048576) :
    Calls Tryz.prog 62 #[.pointer (some ⟨b, 0, none⟩)] w fun e w' => e = .returned (.tuple #[]) ∧ (∃ X', Ke kdCard B w' (F 11) es X' ∧ ∀ i x, es[i]? = some x → Mks (mkCard x.n) 3 x.m (X' i)) ∧ Tf [44] B w w' := by
  have c2 := book_cell hb (k := 11) (by decide) (by decide)
  obtain ⟨a, cap, hF⟩ := h.form
  rw [hF] at c2 h ⊢
  have HC : Hid (∀ w', Tf [44] B w w' → w'.cell? ⟨b, 11, none⟩ = some (.slice a es.length cap)) := fun w' ht => by
    have := book_cell (ht.blk hb (by decide)) (k := 11) (by decide) (by decide)
    rw [hF] at this; exact this
  have HL := hide (And.intro h hes)
  have hNI : ((es.length : Nat) : Int) ≤ 1048576 := by omega
  clear hF h hes hb hN
  obtain ⟨N, hN⟩ : ∃ N, N = es.length := ⟨_, rfl⟩
  rw [← hN] at c2 HC HL hNI ⊢
  have HN := hide hN
  clear hN
  go_enter Tryz.func62, Tryz.ntmps62
  go_wp2_with fail
  go_loopw [10] (fun iv wr => ∃ (i : Nat) (X' : Nat → List Value), iv = .int .i64 (i : Int) ∧ i ≤ N ∧ Hid (Ke kdCard B wr (.slice a N cap) es X' ∧ (∀ j x, es[j]? = some x → j < i → Mks (mkCard x.n) 3 x.m (X' j)) ∧ Tf [44] B w wr)) (fun iv _ => (N - intOf iv).toNat)
  case atStart => exact ⟨0, X, rfl, by omega, ⟨(unhide HL).1, fun j x _ hj => by omega, Tf.refl _ _ _⟩⟩
  case round =>
    obtain ⟨i, X', rfl, hi, hst⟩ := hrel
    by_cases hin : i < N
    · obtain ⟨x, hx⟩ : ∃ x, es[i]? = some x := ⟨_, List.getElem?_eq_getElem (by rw [← unhide HN]; exact hin)⟩
      obtain ⟨hxn, hxm⟩ := (unhide HL).2 x (List.mem_of_getElem? hx)
      obtain ⟨g, rfl, hBg, d1, d2, -, -⟩ := (unhide hst).1.entry hx
      obtain ⟨p, cp, hxv⟩ := own_slice ((unhide hst).1.row i x hx)
      rw [hxv] at d1
      have e2 := unhide HC wr (unhide hst).2.2
      have hiN : (i : Int) < (N : Int) := by omega
      have hi0 : (0 : Int) ≤ (i : Int) := by omega
      have K := hide (fun w' => markCard_b x.n w' hxn)
      have HX := hide (And.intro hx hxv)
      have hMI : ((x.m : Nat) : Int) ≤ 1048576 := by omega
      obtain ⟨M, hM⟩ : ∃ M, M = x.m := ⟨_, rfl⟩
      obtain ⟨n, hn⟩ : ∃ n, n = x.n := ⟨_, rfl⟩
      have hst2 : Hid (Ke kdCard B wr (.slice (some ⟨g, 0, none⟩) N cap) es X' ∧ (∀ j y, es[j]? = some y → j < i → Mks (mkCard y.n) 3 y.m (X' j)) ∧ (∃ pre rest, X' i = pre ++ rest ∧ Mks (mkCard n) 3 0 pre) ∧ Tf [44] B w wr) := ⟨(unhide hst).1, (unhide hst).2.1, ⟨[], X' i, rfl, Mks.nil _ _⟩, (unhide hst).2.2⟩
      rw [← hM] at d1 HX hMI
      rw [← hn] at d2 K
      have HMn := hide (And.intro hM hn)
      clear hx hxn hxm hBg hxv hst hM hn
      go_wp2_with fail
      go_loopw [24] (fun kv wq => ∃ (k : Nat) (X' : Nat → List Value), kv = .int .i64 (k : Int) ∧ k ≤ M ∧ Hid (Ke kdCard B wq (.slice (some ⟨g, 0, none⟩) N cap) es X' ∧ (∀ j y, es[j]? = some y → j < i → Mks (mkCard y.n) 3 y.m (X' j)) ∧ (∃ pre rest, X' i = pre ++ rest ∧ Mks (mkCard n) 3 k pre) ∧ Tf [44] B w wq)) (fun kv _ => (M - intOf kv).toNat)
      case atStart => exact ⟨0, X', rfl, by omega, hst2⟩
      case round =>
        clear hst2
        obtain ⟨k, Xq, rfl, hk, hsq⟩ := hrel
        by_cases hkM : k < M
        · obtain ⟨hK, hmk, ⟨pre, rest, hXi, hpre⟩, hTf⟩ := unhide hsq
          obtain ⟨hx, hxv⟩ := unhide HX
          obtain ⟨hMe, hne_⟩ := unhide HMn
          have hr := hK.row i x hx
          rw [hXi] at hr
          have hlen : (pre ++ rest).length = x.m * 3 := hr.1
          have hpl := hpre.len
          have hrl : 3 ≤ rest.length := by simp at hlen; omega
          obtain ⟨gv, cp', e1, hgl, -, -⟩ := own_open hr (by omega)
          rw [hxv] at e1
          simp only [Value.slice.injEq] at e1
          obtain ⟨e1a, -, -⟩ := e1
          subst e1a
          rw [hxv] at hr
          obtain ⟨y0, hy0⟩ : ∃ y, (pre ++ rest)[k * 3]? = some y := ⟨_, List.getElem?_eq_getElem (by omega)⟩
          obtain ⟨y1, hy1⟩ : ∃ y, (pre ++ rest)[k * 3 + 1]? = some y := ⟨_, List.getElem?_eq_getElem (by omega)⟩
          obtain ⟨y2, hy2⟩ : ∃ y, (pre ++ rest)[k * 3 + 2]? = some y := ⟨_, List.getElem?_eq_getElem (by omega)⟩
          have yc0 := own_cell hr rfl hy0; have yc1 := own_cell hr rfl hy1; have yc2 := own_cell hr rfl hy2
          obtain ⟨g', e', hBg, d1', d2', -, cur, hgc⟩ := hK.entry hx
          cases e'
          rw [hxv] at d1'
          rw [← hne_] at d2'
          obtain ⟨curv, hvc⟩ := own_kind hr (k := gv) rfl
          have hBv : B ≤ gv := (World.ownsRow.lt hr gv rfl).1
          have hne : g ≠ gv := by rintro rfl; rw [hgc] at hvc; simp at hvc; exact absurd hvc.2 (by decide)
          have S0 : wr.drew.cell? ⟨g, i * 2, none⟩ = some (.slice (some ⟨gv, 0, none⟩) M cp) ∧ wr.drew.cell? ⟨g, i * 2 + 1, none⟩ = some (.int .i64 (n : Int)) := ⟨d1', d2'⟩
          have HS1 : Hid (∀ z1, Below wr.drew.heap.size wr.drew z1 → z1.cell? ⟨g, i * 2, none⟩ = some (.slice (some ⟨gv, 0, none⟩) M cp) ∧ z1.cell? ⟨g, i * 2 + 1, none⟩ = some (.int .i64 (n : Int))) := fun z1 b1 => by
            have hgl2 := lt_of_blk hgc
            exact ⟨by rw [b1.cell (p := ⟨g, i * 2, none⟩) hgl2]; exact S0.1, by rw [b1.cell (p := ⟨g, i * 2 + 1, none⟩) hgl2]; exact S0.2⟩
          have hfz : Hid (∀ z1, Below wr.drew.heap.size wr.drew z1 → ∀ j, z1.frozen? ⟨gv, j, none⟩ = false) := fun z1 b1 j => frozen_of_blk0 (cs := curv) (t := 44) (by rw [b1.block gv hgl]; exact hvc) j
          have HS : Hid (∀ z1 z, Below wr.drew.heap.size wr.drew z1 → mkCard n [.int .i64 z, .int .i64 0, .int .i64 0] → ∃ X2 : Nat → List Value, Ke kdCard B (((z1.setCell ⟨gv, k * 3, none⟩ (.int .i64 z)).setCell ⟨gv, k * 3 + 1, none⟩ (.int .i64 0)).setCell ⟨gv, k * 3 + 2, none⟩ (.int .i64 0)) (.slice (some ⟨g, 0, none⟩) N cap) es X2 ∧ (∀ j y, es[j]? = some y → j < i → Mks (mkCard y.n) 3 y.m (X2 j)) ∧ (∃ pre' rest', X2 i = pre' ++ rest' ∧ Mks (mkCard n) 3 (k + 1) pre') ∧ Tf [44] B w (((z1.setCell ⟨gv, k * 3, none⟩ (.int .i64 z)).setCell ⟨gv, k * 3 + 1, none⟩ (.int .i64 0)).setCell ⟨gv, k * 3 + 2, none⟩ (.int .i64 0))) := fun z1 z b1 hm => by
            have hr1 : z1.ownsRow B 44 3 (.slice (some ⟨gv, 0, none⟩) M cp) x.m (pre ++ rest) := own_keep hr (fun q hq => by rw [b1.block q (World.ownsRow.lt hr q hq).2]; rfl)
            have o0 := own_set hr1 (g := gv) rfl (j := k * 3) (.int .i64 z)
            have o1 := own_set o0 (g := gv) rfl (j := k * 3 + 1) (.int .i64 0)
            have o2 := own_set o1 (g := gv) rfl (j := k * 3 + 2) (.int .i64 0)
            rw [set3_at _ _ _ (by rw [hpl]) hrl] at o2
            have hf : Fr [gv] z1 (((z1.setCell ⟨gv, k * 3, none⟩ (.int .i64 z)).setCell ⟨gv, k * 3 + 1, none⟩ (.int .i64 0)).setCell ⟨gv, k * 3 + 2, none⟩ (.int .i64 0)) := fr_set3 z1 gv (k * 3) (.int .i64 z) (.int .i64 0) (.int .i64 0)
            have hK1 : Ke kdCard B z1 (.slice (some ⟨g, 0, none⟩) N cap) es Xq := (hK.bw (w' := wr.drew) ⟨rfl, rfl, rfl, Nat.le_refl _, fun _ _ => rfl⟩).bw b1
            have hvc1 : z1.heap[gv]? = some (.cells curv 44 (0, 0)) := by rw [b1.block gv hgl]; exact hvc
            have hT1 : Tf [44] B w z1 := (hTf.drew).after b1 hB
            refine ⟨(fun j => if j = i then (pre ++ [.int .i64 z, .int .i64 0, .int .i64 0]) ++ rest.drop 3 else Xq j), hK1.put hx (by rw [hxv]; exact hf) (by rw [hxv]; exact o2) (by decide), fun j y hy hj => ?_, ⟨pre ++ [.int .i64 z, .int .i64 0, .int .i64 0], rest.drop 3, by simp, hpre.snoc rfl hm⟩, hT1.fr1 hf hvc1 (by simp) hBv⟩
            have : ¬ j = i := by omega
            simp only [this, if_false]
            exact hmk j y hy hj
          have hkM' : (k : Int) < (M : Int) := by omega
          have hk0 : (0 : Int) ≤ (k : Int) := by omega
          have e2q := unhide HC wr hTf
          have HGL := hide hgl
          clear hK hmk hXi hpre hTf hx hxv hMe hne_ hr hlen hpl hrl d1' d2' hgc hvc hBv hBg hsq hy0 hy1 hy2
          go_wp2_with fail
          first
          | go_region_held3 (fun w' : World => w'.cell? ⟨g, i * 2, none⟩ = some (.slice (some ⟨gv, 0, none⟩) M cp) ∧ w'.cell? ⟨g, i * 2 + 1, none⟩ = some (.int .i64 (n : Int))) (first | with_reducible exact S0 | with_reducible exact S1 | exact ⟨by rw [cell_set_other hne, cell_set_other hne, cell_set_other hne]; exact S1.1, by rw [cell_set_other hne, cell_set_other hne, cell_set_other hne]; exact S1.2⟩) (first
              | (go_at_call 44; refine (unhide K _).mono ?_; rintro e z1 ⟨z, rfl, hm, b1⟩; have S1 := unhide HS1 z1 b1; have hfz1 := unhide hfz z1 b1; have hgl := unhide HGL; have u0 : z1.cell? ⟨gv, k * 3, none⟩ = some y0 := (by rw [b1.cell (p := ⟨gv, k * 3, none⟩) hgl]; exact yc0); have u1 : z1.cell? ⟨gv, k * 3 + 1, none⟩ = some y1 := (by rw [b1.cell (p := ⟨gv, k * 3 + 1, none⟩) hgl]; exact yc1); have u2 : z1.cell? ⟨gv, k * 3 + 2, none⟩ = some y2 := (by rw [b1.cell (p := ⟨gv, k * 3 + 2, none⟩) hgl]; exact yc2); have v0 := hfz1 (k * 3); have v1 := hfz1 (k * 3 + 1); have v2 := hfz1 (k * 3 + 2)) | fail)
          | fail
          all_goals
            obtain ⟨X2, HZ⟩ := unhide HS z1 z b1 hm
            have HZ2 := hide HZ
            clear S1 hfz1 hm b1 HZ
            go_wp2_with fail
            go_roundw
            case rel => exact ⟨k + 1, X2, by go_num, by omega, HZ2⟩
            case measure => simp only [intOf]; omega
        · obtain rfl : k = M := by omega
          have HX3 : Hid (Ke kdCard B wr (.slice (some ⟨g, 0, none⟩) N cap) es Xq ∧ (∀ j x, es[j]? = some x → j < i + 1 → Mks (mkCard x.n) 3 x.m (Xq j)) ∧ Tf [44] B w wr) := by
            obtain ⟨hK, hmk, ⟨pre, rest, hXi, hpre⟩, hTf⟩ := unhide hsq
            refine ⟨hK, fun j y hy hj => ?_, hTf⟩
            rcases Nat.lt_or_ge j i with c | c
            · exact hmk j y hy c
            · obtain rfl : j = i := by omega
              obtain ⟨hx, -⟩ := unhide HX
              rw [hx] at hy
              cases hy
              have hr := hK.row j x hx
              rw [hXi] at hr
              have hlen : (pre ++ rest).length = x.m * 3 := hr.1
              have hpl := hpre.len
              obtain ⟨hMe, hne_⟩ := unhide HMn
              have : rest = [] := List.eq_nil_of_length_eq_zero (by simp at hlen; rw [hMe] at hpl; omega)
              subst this
              rw [hXi, List.append_nil, ← hMe, ← hne_]
              exact hpre
          clear hsq
          go_wp2_with fail
          go_roundw
          case rel => exact ⟨i + 1, Xq, by go_num, by omega, HX3⟩
          case measure => simp only [intOf]; omega
    · obtain rfl : i = N := by omega
      go_wp2_with fail
      go_end0
      refine ⟨rfl, ⟨X', (unhide hst).1, fun j x hx => (unhide hst).2.1 j x hx ?_⟩, (unhide hst).2.2⟩
      rw [unhide HN]; exact (List.getElem?_eq_some_iff.1 hx).1
end Go.Proofs.YtihniafidgjlcaaGreatDoor

/- The contract of growCard of a Book: three marks more behind each kept list. -/
namespace Go.Proofs.YtihniafidgjlcaaGreatDoor
open Go.RowKit Go.Maps
def MkdCard (es : List Ent) (X : Nat → List Value) : Prop := ∀ i x, es[i]? = some x → Mks (mkCard x.n) 3 x.m (X i)
set_option maxRecDepth 100000 in
set_option maxHeartbeats 4000000 in
theorem growCard_b (B b : Nat) (cnt : Int) (F : Nat → Value) (es : List Ent) (X : Nat → List Value) (w : World) (hb : w.heap[b]? = some (.cells (bookF cnt F) 98 (0, 0))) (h : Ke kdCard B w (F 11) es X) (hB : B ≤ w.heap.size) (hN : es.length ≤ 1048576) (hes : ∀ x ∈ es, x.n ≤ 1048576 ∧ x.m ≤ 1048576) (hmk : MkdCard es X) :
    Calls Tryz.prog 95 #[.pointer (some ⟨b, 0, none⟩)] w fun e w' => e = .returned (.tuple #[]) ∧ (∃ es' X', Ke kdCard B w' (F 11) es' X' ∧ es'.length = es.length ∧ (∀ x ∈ es', x.n ≤ 1048576 ∧ x.m ≤ 1048579) ∧ MkdCard es' X') ∧ Tf [44, 147] B w w' := by
  obtain ⟨i0, hi0, hz0, hz1, hz2⟩ := info_parts Tryz.infoCards
  have c2 := book_cell hb (k := 11) (by decide) (by decide)
  obtain ⟨a, cap, hF⟩ := h.form
  rw [hF] at c2 h ⊢
  have HC : Hid (∀ w', Tf [44, 147] B w w' → w'.cell? ⟨b, 11, none⟩ = some (.slice a es.length cap)) := fun w' ht => by
    have := book_cell (ht.blk hb (by decide)) (k := 11) (by decide) (by decide)
    rw [hF] at this; exact this
  have HL : Hid (Ke kdCard B w (.slice a es.length cap) es X ∧ MkdCard es X ∧ ∀ (j : Nat) (x : Ent), es[j]? = some x → x.n ≤ 1048576 ∧ x.m ≤ 1048576) := ⟨h, hmk, fun j x hx => hes x (List.mem_of_getElem? hx)⟩
  have hNI : ((es.length : Nat) : Int) ≤ 1048576 := by omega
  clear hF h hes hb hN hmk
  obtain ⟨N, hN⟩ : ∃ N, N = es.length := ⟨_, rfl⟩
  rw [← hN] at c2 HC HL hNI ⊢
  have HN := hide hN
  clear hN
  go_enter Tryz.func95, Tryz.ntmps95
  go_wp2_with fail
  go_loopw [10] (fun iv wr => ∃ (i : Nat) (es' : List Ent) (X' : Nat → List Value), iv = .int .i64 (i : Int) ∧ i ≤ N ∧ Hid (Ke kdCard B wr (.slice a N cap) es' X' ∧ es'.length = N ∧ MkdCard es' X' ∧ (∀ (j : Nat) (x : Ent), es'[j]? = some x → x.n ≤ 1048576 ∧ x.m ≤ 1048576 + (if j < i then 3 else 0)) ∧ Tf [44, 147] B w wr)) (fun iv _ => (N - intOf iv).toNat)
  case atStart => exact ⟨0, es, X, rfl, by omega, ⟨(unhide HL).1, (unhide HN).symm, (unhide HL).2.1, fun j x hx => by simpa using (unhide HL).2.2 j x hx, Tf.refl _ _ _⟩⟩
  case round =>
    obtain ⟨i, es', X', rfl, hi, hst⟩ := hrel
    by_cases hin : i < N
    · have e2 := unhide HC wr (unhide hst).2.2.2.2
      obtain ⟨x0, hx0⟩ : ∃ x, es'[i]? = some x := ⟨_, List.getElem?_eq_getElem (by rw [(unhide hst).2.1]; exact hin)⟩
      obtain ⟨g, rfl, -⟩ := (unhide hst).1.entry hx0
      have hiN : (i : Int) < (N : Int) := by omega
      have hi0' : (0 : Int) ≤ (i : Int) := by omega
      have hst2 : Hid (Ke kdCard B wr (.slice (some ⟨g, 0, none⟩) N cap) es' X' ∧ es'.length = N ∧ MkdCard es' X' ∧ (∀ (j : Nat) (x : Ent), es'[j]? = some x → x.n ≤ 1048576 ∧ x.m ≤ 1048576 + (if j < i then 3 else if j = i then 0 else 0)) ∧ Tf [44, 147] B w wr) := by
        obtain ⟨h1, h2, h3, h4, h5⟩ := unhide hst
        exact ⟨h1, h2, h3, fun j x hx => by have := h4 j x hx; by_cases q : j < i <;> by_cases q2 : j = i <;> simp [q, q2] at this ⊢ <;> omega, h5⟩
      clear hx0 hst
      go_wp2_with fail
      go_loopw [4] (fun kv wq => ∃ (k : Nat) (es' : List Ent) (X' : Nat → List Value), kv = .int .i64 (k : Int) ∧ k ≤ 3 ∧ Hid (Ke kdCard B wq (.slice (some ⟨g, 0, none⟩) N cap) es' X' ∧ es'.length = N ∧ MkdCard es' X' ∧ (∀ (j : Nat) (x : Ent), es'[j]? = some x → x.n ≤ 1048576 ∧ x.m ≤ 1048576 + (if j < i then 3 else if j = i then k else 0)) ∧ Tf [44, 147] B w wq)) (fun kv _ => (3 - intOf kv).toNat)
      case atStart => exact ⟨0, es', X', rfl, by omega, hst2⟩
      case round =>
        clear hst2
        obtain ⟨k, eq, Xq, rfl, hk, hsq⟩ := hrel
        by_cases hk3 : k < 3
        · obtain ⟨hK, hlen, hmq, hbd, hTf⟩ := unhide hsq
          obtain ⟨x, hx⟩ : ∃ x, eq[i]? = some x := ⟨_, List.getElem?_eq_getElem (by rw [hlen]; exact hin)⟩
          obtain ⟨hxn, hxm⟩ := hbd i x hx
          have hxm2 : x.m ≤ 1048579 := by simp at hxm; omega
          obtain ⟨g', e', hBg, d1, d2, -, cur, hgc⟩ := hK.entry hx
          cases e'
          obtain ⟨p, cp, hxv⟩ := own_slice (hK.row i x hx)
          have hmx : x.m + 1 ≤ maxLen := by unfold maxLen; omega
          have hby : (x.m + 1) * 24 ≤ 140737488355328 := by omega
          have hBw : B ≤ wr.heap.size := Nat.le_trans hB hTf.size
          have HK : Hid (∀ w', Calls Tryz.prog 44 #[.int .i64 (x.n : Int)] w' fun e w'' => ∃ z, e = .returned (.agg #[.int .i64 z, .int .i64 0, .int .i64 0]) ∧ mkCard x.n [.int .i64 z, .int .i64 0, .int .i64 0] ∧ Below w'.heap.size w' w'') := fun w' => markCard_b x.n w' hxn
          have HA : Hid (∀ W, Below wr.heap.size wr W → W.cell? ⟨g, i * 2, none⟩ = some x.v ∧ W.ownsRow B 44 3 x.v x.m (Xq i) ∧ Ke kdCard B W (.slice (some ⟨g, 0, none⟩) N cap) eq Xq ∧ B ≤ W.heap.size ∧ Tf [44, 147] B w W) := fun W hb => by
            have hK2 := hK.bw hb
            obtain ⟨g2, e2', -, d1', -⟩ := hK2.entry hx
            cases e2'
            exact ⟨d1', hK2.row i x hx, hK2, Nat.le_trans hBw hb.size, hTf.after hb hB⟩
          have HM := hide (And.intro hmx hby)
          have HS : Hid (∀ (v' : Value) z, mkCard x.n [.int .i64 z, .int .i64 0, .int .i64 0] → (eq.set i ⟨v', x.n, x.m + 1⟩).length = N ∧ MkdCard (eq.set i ⟨v', x.n, x.m + 1⟩) (fun j => if j = i then Xq i ++ [.int .i64 z, .int .i64 0, .int .i64 0] else Xq j) ∧ (∀ (j : Nat) (y : Ent), (eq.set i ⟨v', x.n, x.m + 1⟩)[j]? = some y → y.n ≤ 1048576 ∧ y.m ≤ 1048576 + (if j < i then 3 else if j = i then k + 1 else 0))) := fun v' z hm => by
            have hil : i < eq.length := by rw [hlen]; exact hin
            refine ⟨by simp [hlen], fun j y hy => ?_, fun j y hy => ?_⟩
            · by_cases q : j = i
              · subst q
                rw [List.getElem?_set_self hil] at hy
                cases hy
                simp only [if_true]
                exact (hmq j x hx).snoc rfl hm
              · rw [List.getElem?_set_ne (Ne.symm q)] at hy
                simp only [q, if_false]
                exact hmq j y hy
            · by_cases q : j = i
              · subst q
                rw [List.getElem?_set_self hil] at hy
                cases hy
                simp at hxm ⊢
                omega
              · rw [List.getElem?_set_ne (Ne.symm q)] at hy
                have := hbd j y hy
                simp only [q, if_false] at this ⊢
                exact this
          have bA : Below wr.heap.size wr wr.drew := (Below.refl _ _).drew
          obtain ⟨v, hv⟩ : ∃ v, v = x.v := ⟨_, rfl⟩
          have hxv2 : v = .slice p x.m cp := by rw [hv]; exact hxv
          rw [← hv] at d1 HA
          have HV := hide hv
          have HX := hide hx
          have hkI : (k : Int) < 3 := by omega
          have e2q := unhide HC wr hTf
          subst hxv2
          have HBw := hide hBw
          obtain ⟨xm, hxm3⟩ : ∃ xm, xm = x.m := ⟨_, rfl⟩
          rw [← hxm3] at d1 HA HM HV
          have HXM := hide hxm3
          clear hK hlen hmq hbd hTf hx hxn hxm hxm2 hBg hgc hxv hmx hby hBw hv hsq hxm3
          go_wp2_with fail
          go_region_law (first | (refine step_app rfl (.tmp 27) (.tmp 33) 56 rfl B 44 i0 (.agg #[.int .i64 0, .int .i64 0, .int .i64 0]) 3 24 Tryz.underlying56 hi0 hz0 hz1 hz2 rfl (by decide) (.slice p xm cp) xm (Xq i) (by simp [Act.eval]) (World.ownsRow.alloc X1.2.1 _) ⟨z1.heap.size, 0, none⟩ 1 1 [.int .i64 z, .int .i64 0, .int .i64 0] (by simp [Act.eval]) rfl (cells_newB3 z1 _ _ _ _) (oneCard z) (unhide HM).1 (unhide HM).2 (Nat.le_trans X1.2.2.2.1 (by simp)) ?_; intro v' w1 hown' hgrow hat; have X3 := (X1.2.2.1).grown (unhide HX) ((Fr.refl [] z1).alloc _) (v' := v') (news := [.int .i64 z, .int .i64 0, .int .i64 0]) (by rw [← unhide HXM]; exact hown') (by rw [← unhide HV]; exact hgrow) (by rw [← unhide HV]; exact hat) X1.2.2.2.1 (by decide); obtain ⟨k1, k2, k3, k4⟩ := X3; rw [← unhide HV] at k3; obtain ⟨gv, cpv, rfl⟩ := row_formB hown') | (go_simp; go_wp2_with (first | (go_at_call 44; refine (unhide HK _).mono ?_; rintro e z1 ⟨z, rfl, hm, b1⟩; have b2 := bw_tr bA b1; have X1 := unhide HA _ b2; have x1 := X1.1; have X2 := unhide HA _ (bw_tr b2 (bwA z1 (.cells #[.int .i64 z, .int .i64 0, .int .i64 0] 44))); have x2 := X2.1))))
          all_goals
            have hz := unhide HS (.slice (some ⟨gv, 0, none⟩) (xm + 1) cpv) z hm
            obtain ⟨E2, X2', HZ⟩ : ∃ E2 X2', Hid (Ke kdCard B ((w1).setCell ⟨g, i * 2, none⟩ (.slice (some ⟨gv, 0, none⟩) (xm + 1) cpv)) (.slice (some ⟨g, 0, none⟩) N cap) E2 X2' ∧ E2.length = N ∧ MkdCard E2 X2' ∧ (∀ (j : Nat) (y : Ent), E2[j]? = some y → y.n ≤ 1048576 ∧ y.m ≤ 1048576 + (if j < i then 3 else if j = i then k + 1 else 0)) ∧ Tf [44, 147] B w ((w1).setCell ⟨g, i * 2, none⟩ (.slice (some ⟨gv, 0, none⟩) (xm + 1) cpv))) :=
              ⟨eq.set i ⟨.slice (some ⟨gv, 0, none⟩) (xm + 1) cpv, x.n, x.m + 1⟩, fun j => if j = i then Xq i ++ [.int .i64 z, .int .i64 0, .int .i64 0] else Xq j, k1, hz.1, hz.2.1, hz.2.2, X1.2.2.2.2.trans k2⟩
            clear k1 k2 X1 X2 hm hz
            go_wp2_with fail
            go_roundw
            case rel => exact ⟨k + 1, E2, X2', by go_num, by omega, HZ⟩
            case measure => simp only [intOf]; omega
        · obtain rfl : k = 3 := by omega
          have HX3 : Hid (Ke kdCard B wr (.slice (some ⟨g, 0, none⟩) N cap) eq Xq ∧ eq.length = N ∧ MkdCard eq Xq ∧ (∀ (j : Nat) (x : Ent), eq[j]? = some x → x.n ≤ 1048576 ∧ x.m ≤ 1048576 + (if j < i + 1 then 3 else 0)) ∧ Tf [44, 147] B w wr) := by
            obtain ⟨h1, h2, h3, h4, h5⟩ := unhide hsq
            refine ⟨h1, h2, h3, fun j x hx => ?_, h5⟩
            have := h4 j x hx
            refine ⟨this.1, Nat.le_trans this.2 (Nat.add_le_add_left ?_ _)⟩
            by_cases q : j < i
            · rw [if_pos q, if_pos (by omega)]; exact Nat.le_refl _
            · by_cases q2 : j = i
              · rw [if_neg q, if_pos q2, if_pos (by omega)]; exact Nat.le_refl _
              · rw [if_neg q, if_neg q2]; omega
          clear hsq
          go_wp2_with fail
          go_roundw
          case rel => exact ⟨i + 1, eq, Xq, by go_num, by omega, HX3⟩
          case measure => simp only [intOf]; omega
    · obtain rfl : i = N := by omega
      go_wp2_with fail
      go_end0
      obtain ⟨h1, h2, h3, h4, h5⟩ := unhide hst
      refine ⟨rfl, ⟨es', X', h1, h2, fun x hx => ?_, h3⟩, h5⟩
      obtain ⟨j, hj⟩ := List.mem_iff_getElem?.1 hx
      have := h4 j x hj
      refine ⟨this.1, Nat.le_trans this.2 ?_⟩
      split <;> omega
end Go.Proofs.YtihniafidgjlcaaGreatDoor

/- The contract of lookCard of a Book: marks are found. -/
namespace Go.Proofs.YtihniafidgjlcaaGreatDoor
open Go.RowKit Go.Maps
theorem isCard_b (n : Nat) (z : Int) (hz : mkCard n [.int .i64 z, .int .i64 0, .int .i64 0]) (w : World) (h : n ≤ 1048576) : Calls Tryz.prog 51 #[.agg #[.int .i64 z, .int .i64 0, .int .i64 0], .int .i64 (n : Int)] w fun e w' => e = .returned (.bool true) ∧ Below w.heap.size w w' := by
  obtain rfl : z = mkI n := by unfold mkCard at hz; simpa using hz
  exact (isCard_any n w (by omega))
set_option maxRecDepth 100000 in
set_option maxHeartbeats 4000000 in
theorem lookCard_b (B b : Nat) (cnt : Int) (F : Nat → Value) (es : List Ent) (X : Nat → List Value) (w : World) (hb : w.heap[b]? = some (.cells (bookF cnt F) 98 (0, 0))) (h : Ke kdCard B w (F 11) es X) (hN : es.length ≤ 1048576) (hes : ∀ x ∈ es, x.n ≤ 1048576 ∧ x.m ≤ 1048579) (hmk : MkdCard es X) :
    Calls Tryz.prog 129 #[.pointer (some ⟨b, 0, none⟩)] w fun e w' => e = .returned (.bool true) ∧ Below w.heap.size w w' := by
  have c2 := book_cell hb (k := 11) (by decide) (by decide)
  obtain ⟨a, cap, hF⟩ := h.form
  rw [hF] at c2 h
  have HL := hide (And.intro h (And.intro hes hmk))
  have hNI : ((es.length : Nat) : Int) ≤ 1048576 := by omega
  clear hF h hes hb hN hmk
  obtain ⟨N, hN⟩ : ∃ N, N = es.length := ⟨_, rfl⟩
  rw [← hN] at c2 HL hNI
  have HN := hide hN
  clear hN
  go_enter Tryz.func129, Tryz.ntmps129
  go_wp2_with fail
  go_loopw [12] (fun iv wr => ∃ i : Nat, iv = .int .i64 (i : Int) ∧ i ≤ N ∧ Below w.heap.size w wr) (fun iv _ => (N - intOf iv).toNat)
  case atStart => exact ⟨0, rfl, by omega, Below.refl _ _⟩
  case round =>
    obtain ⟨i, rfl, hi, hbel⟩ := hrel
    by_cases hin : i < N
    · obtain ⟨x, hx⟩ : ∃ x, es[i]? = some x := ⟨_, List.getElem?_eq_getElem (by rw [← unhide HN]; exact hin)⟩
      have hK := (unhide HL).1.bw hbel
      obtain ⟨hxn, hxm⟩ := (unhide HL).2.1 x (List.mem_of_getElem? hx)
      have hmk := (unhide HL).2.2 i x hx
      obtain ⟨g, rfl, hBg, d1, d2, -, -⟩ := hK.entry hx
      have hr := hK.row i x hx
      obtain ⟨p, cp, hxv⟩ := own_slice hr
      rw [hxv] at d1 hr
      have hiN : (i : Int) < (N : Int) := by omega
      have hi0 : (0 : Int) ≤ (i : Int) := by omega
      have hMI : ((x.m : Nat) : Int) ≤ 1048579 := by omega
      obtain ⟨M, hM⟩ : ∃ M, M = x.m := ⟨_, rfl⟩
      obtain ⟨n, hn⟩ : ∃ n, n = x.n := ⟨_, rfl⟩
      rw [← hM] at d1 hMI hr hmk
      rw [← hn] at d2 hmk hxn
      have HV := hide (And.intro hmk hr)
      have HK : Hid (∀ z, mkCard n [.int .i64 z, .int .i64 0, .int .i64 0] → ∀ w', Calls Tryz.prog 51 #[.agg #[.int .i64 z, .int .i64 0, .int .i64 0], .int .i64 (n : Int)] w' fun e w'' => e = .returned (.bool true) ∧ Below w'.heap.size w' w'') := fun z hz w' => isCard_b n z hz w' hxn
      have start : Hid (Below wr.heap.size wr (wr.alloc (.cells #[.slice p M cp, .int .i64 (n : Int)] 147)) ∧ (wr.alloc (.cells #[.slice p M cp, .int .i64 (n : Int)] 147)).cell? ⟨wr.heap.size, 1, none⟩ = some (.int .i64 (n : Int))) := ⟨bwA _ _, cell_of_blk (heap_alloc_new _ _) rfl⟩
      have HB := hide hbel
      clear hM hn hmk hr hK hx hxn hxm hBg hxv hbel
      go_wp2_with fail
      rename World => wo
      go_loopw [19] (fun kv wq => ∃ k : Nat, kv = .int .i64 (k : Int) ∧ k ≤ M ∧ Hid (Below wo.heap.size wo wq ∧ wq.cell? ⟨wo.heap.size, 1, none⟩ = some (.int .i64 (n : Int)))) (fun kv _ => (M - intOf kv).toNat)
      case atStart => exact ⟨0, rfl, by omega, start⟩
      case round =>
        clear start
        obtain ⟨k, rfl, hk, HR⟩ := hrel
        by_cases hkM : k < M
        · have hkM' : (k : Int) < (M : Int) := by omega
          have hk0 : (0 : Int) ≤ (k : Int) := by omega
          obtain ⟨hmk, hr⟩ := unhide HV
          obtain ⟨l, hlen, hml, hl⟩ := hmk.get hkM
          have hr2 := own_keep hr (w' := wr) (fun q hq => (unhide HR).1.block q (World.ownsRow.lt hr q hq).2)
          obtain ⟨gv, cp', e1, -⟩ := own_open hr (by omega)
          simp only [Value.slice.injEq] at e1
          obtain ⟨e1a, -, -⟩ := e1
          subst e1a
          obtain ⟨z, hz⟩ : ∃ z, l = [.int .i64 z, .int .i64 0, .int .i64 0] := ⟨_, hml⟩
          rw [hz] at hl hml
          have t0 : wr.cell? ⟨gv, k * 3, none⟩ = some (.int .i64 z) := own_cell hr2 rfl (by simpa using hl 0 _ rfl); have t1 : wr.cell? ⟨gv, k * 3 + 1, none⟩ = some (.int .i64 0) := own_cell hr2 rfl (hl 1 _ rfl); have t2 : wr.cell? ⟨gv, k * 3 + 2, none⟩ = some (.int .i64 0) := own_cell hr2 rfl (hl 2 _ rfl)
          have c1 := (unhide HR).2
          have XX : Hid (∀ W, Below wr.heap.size wr W → Below wo.heap.size wo W ∧ W.cell? ⟨wo.heap.size, 1, none⟩ = some (.int .i64 (n : Int))) := fun W hb => ⟨bw_tr (unhide HR).1 hb, by rw [World.cell?_of_block (w := wr) (hb.block _ (lt_of_cell c1))]; exact c1⟩
          have hb1 : Below wr.heap.size wr (wr.alloc (.cells #[.int .i64 z, .int .i64 0, .int .i64 0] 44)) := bwA wr _
          have KI := hide (unhide HK z hml (wr.alloc (.cells #[.int .i64 z, .int .i64 0, .int .i64 0] 44)))
          have hwl := lt_of_cell c1
          clear hmk hr hlen hml hl hr2 hz HR
          go_wp2_with fail
          refine (unhide KI).mono ?_
          rintro e w5 ⟨rfl, b5⟩
          have X5 := hide (unhide XX _ (bw_tr hb1 b5))
          clear KI b5 XX c1 t0 t1 t2
          go_wp2_with fail
          go_roundw
          case rel => exact ⟨k + 1, by go_num, by omega, X5⟩
          case measure => simp only [intOf]; omega
        · obtain rfl : k = M := by omega
          have hb9 := bw_tr (unhide HB) (unhide HR).1
          clear HR
          go_wp2_with fail
          go_roundw
          case rel => exact ⟨i + 1, by go_num, by omega, hb9⟩
          case measure => simp only [intOf]; omega
    · obtain rfl : i = N := by omega
      go_wp2_with fail
      go_ret
      exact ⟨rfl, hbel⟩
end Go.Proofs.YtihniafidgjlcaaGreatDoor

/- The contract of keepCard of a Book. -/
namespace Go.Proofs.YtihniafidgjlcaaGreatDoor
open Go.RowKit Go.Maps
theorem Tryz.infoheldCard : (Tryz.prog.info? 147).map (fun i => (i.zero, i.size, i.bytes)) = some (some (.agg #[.slice none 0 0, .int .i64 0]), 2, 32) := by kernel_rfl
set_option maxRecDepth 100000 in
set_option maxHeartbeats 4000000 in
theorem keepCard_b (B b n : Nat) (F : Nat → Value) (es : List Ent) (X : Nat → List Value) (p : Option Addr) (m cap : Nat) (w : World) (hb : w.heap[b]? = some (.cells (bookF (n : Int) F) 98 (0, 0))) (h : Ke kdCard B w (F 11) es X) (hBb : B ≤ b) (hB : B ≤ w.heap.size) (hN : es.length ≤ 1048576) (hn : n ≤ 1048576) :
    Calls Tryz.prog 52 #[.pointer (some ⟨b, 0, none⟩), .slice p m cap] w fun e w' => e = .returned (.tuple #[]) ∧ ∃ lv', w'.heap[b]? = some (.cells (bookF ((n + 1 : Nat) : Int) (updF F 11 lv')) 98 (0, 0)) ∧ w'.ownsRow B 147 2 lv' (es ++ [Ent.mk (.slice p m cap) n m]).length (helE (es ++ [Ent.mk (.slice p m cap) n m])) ∧ Tf [98, 147] B w w' := by
  obtain ⟨i0, hi, hz0, hz1, hz2⟩ := info_parts Tryz.infoheldCard
  have c0 : w.cell? ⟨b, 0, none⟩ = some (.int .i64 (n : Int)) := cell_of_blk hb (bookF_zero _ _)
  have c2 := book_cell hb (k := 11) (by decide) (by decide)
  have hbw := lt_of_blk hb
  have hmx : es.length + 1 ≤ maxLen := by unfold maxLen; omega
  have hby : (es.length + 1) * 32 ≤ 140737488355328 := by omega
  have hone : ∀ u ∈ [Value.slice p m cap, .int .i64 (n : Int)], u.oneCell' = true := by
    intro u hu
    simp only [List.mem_cons, List.not_mem_nil, or_false] at hu
    rcases hu with rfl | rfl <;> rfl
  have h0 : Fr [] w (w.drew.alloc (.cells #[.slice p m cap, .int .i64 (n : Int)] 147)) := ((Fr.refl [] w).drew).alloc _
  have HM : Hid (es.length + 1 ≤ maxLen ∧ (es.length + 1) * 32 ≤ 140737488355328 ∧ (∀ u ∈ [Value.slice p m cap, .int .i64 (n : Int)], u.oneCell' = true) ∧ w.drew.ownsRow B 147 2 (F 11) es.length (helE es)) := ⟨hmx, hby, hone, h.own.drew⟩
  have HT : Hid (∀ (lv' : Value) (w1 : World), w1.ownsRow B 147 2 lv' (es.length + 1) (helE es ++ [.slice p m cap, .int .i64 (n : Int)]) → (w.drew.alloc (.cells #[.slice p m cap, .int .i64 (n : Int)] 147)).grownBy w1 (F 11).ownBlock → (lv'.ownBlock = (F 11).ownBlock ∨ lv'.ownBlock = some (w.drew.alloc (.cells #[.slice p m cap, .int .i64 (n : Int)] 147)).heap.size) → _) := fun lv' w1 ho hg hat => h.kept (k := 11) hb (by decide) hBb hB (by decide) (by decide) h0 ho hg hat
  have c2a : (w.alloc (.cells #[.slice p m cap, .int .i64 (n : Int)] 147)).cell? ⟨b, 11, none⟩ = some (F 11) := by
    rw [World.cell?_of_block (w := w) (Below.heap_alloc _ _ _ hbw)]; exact c2
  have hnI : (n : Int) ≤ 1048576 := by omega
  have HBw := hide hB
  clear hmx hby hone h0 h hbw hb hN hn hBb hB
  generalize hlv : F 11 = lv at *
  clear hlv
  go_enter Tryz.func52, Tryz.ntmps52
  go_wp2_with fail
  go_region_law (refine step_app rfl (.tmp 8) (.tmp 15) 73 rfl B 147 i0 (.agg #[.slice none 0 0, .int .i64 0]) 2 32 Tryz.underlying73 hi hz0 hz1 hz2 rfl (by decide) lv es.length (helE es) (by simp [Act.eval]) ((unhide HM).2.2.2.alloc _) ⟨w.heap.size, 0, none⟩ 1 1 [.slice p m cap, .int .i64 (n : Int)] (by simp [Act.eval]) rfl (cells_newB2 w.drew _ _ _) (unhide HM).2.2.1 (unhide HM).1 (unhide HM).2.1 (by have := unhide HBw; simp; omega) ?_; intro v' w1 hown' hgrow hat; obtain ⟨k1, k2, k3, k4, k5, k6, k7⟩ := unhide HT v' w1 hown' hgrow hat; obtain ⟨g, cp, rfl⟩ := row_formB hown')
  all_goals
    have HZ := hide (And.intro k1 (And.intro (k2 m) k3))
    clear k1 k2 k3
    go_wp2_with fail
  all_goals
    go_end0
    exact ⟨rfl, _, (unhide HZ).1, (unhide HZ).2.1, (unhide HZ).2.2⟩
end Go.Proofs.YtihniafidgjlcaaGreatDoor

/- A Book that keeps cards alone: what its other kinds do. mkRoBa.py writes it. -/
namespace Go.Proofs.YtihniafidgjlcaaGreatDoor
open Go.RowKit Go.Maps
theorem fillNumber_nil (b : Nat) (w : World) (h : w.cell? ⟨b, 2, none⟩ = some (.slice none 0 0)) :
    Calls Tryz.prog 53 #[.pointer (some ⟨b, 0, none⟩)] w fun e w' => e = .returned (.tuple #[]) ∧ w' = w := by
  go_enter Tryz.func53, Tryz.ntmps53
  go_wp2_with fail
  go_loopw [10] (fun iv wr => iv = .int .i64 0 ∧ wr = w) (fun _ _ => 0)
  case atStart => exact ⟨rfl, rfl⟩
  case round =>
    obtain ⟨rfl, rfl⟩ := hrel
    go_wp2
    go_end0
    exact ⟨rfl, rfl⟩
theorem growNumber_nil (b : Nat) (w : World) (h : w.cell? ⟨b, 2, none⟩ = some (.slice none 0 0)) :
    Calls Tryz.prog 86 #[.pointer (some ⟨b, 0, none⟩)] w fun e w' => e = .returned (.tuple #[]) ∧ w' = w := by
  go_enter Tryz.func86, Tryz.ntmps86
  go_wp2_with fail
  go_loopw [10] (fun iv wr => iv = .int .i64 0 ∧ wr = w) (fun _ _ => 0)
  case atStart => exact ⟨rfl, rfl⟩
  case round =>
    obtain ⟨rfl, rfl⟩ := hrel
    go_wp2
    go_end0
    exact ⟨rfl, rfl⟩
theorem lookNumber_nil (b : Nat) (w : World) (h : w.cell? ⟨b, 2, none⟩ = some (.slice none 0 0)) :
    Calls Tryz.prog 120 #[.pointer (some ⟨b, 0, none⟩)] w fun e w' => e = .returned (.bool true) ∧ w' = w := by
  go_enter Tryz.func120, Tryz.ntmps120
  go_wp2_with fail
  go_loopw [12] (fun iv wr => iv = .int .i64 0 ∧ wr = w) (fun _ _ => 0)
  case atStart => exact ⟨rfl, rfl⟩
  case round =>
    obtain ⟨rfl, rfl⟩ := hrel
    go_wp2
    go_ret
    exact ⟨rfl, rfl⟩
end Go.Proofs.YtihniafidgjlcaaGreatDoor
