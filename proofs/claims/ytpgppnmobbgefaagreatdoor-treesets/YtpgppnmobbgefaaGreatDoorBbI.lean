/- Texts joined: BoLNumber BoLNode. -/
import Derived.Test.YtpgppnmobbgefaaGreatDoorBbH
/- The contract of lookNumber of a Book: marks are found. -/
namespace Go.Proofs.YtpgppnmobbgefaaGreatDoor
open Go.RowKit Go.Maps

theorem isNumber_b (n : Nat) (z : Int) (hz : mkNumber n [.int .i64 z]) (w : World) (h : n ≤ 1048576) : Calls Tryz.prog 181 #[.int .i64 z, .int .i64 (n : Int)] w fun e w' => e = .returned (.bool true) ∧ Below w.heap.size w w' := by
  obtain rfl : z = mkI n := by unfold mkNumber at hz; simpa using hz
  exact (isint_any n w (by omega)).mono (fun e w' h => ⟨h.1, by rw [h.2]; exact Below.refl _ _⟩)
set_option maxRecDepth 100000 in
set_option maxHeartbeats 4000000 in
theorem lookNumber_b (B b : Nat) (cnt : Int) (F : Nat → Value) (es : List Ent) (X : Nat → List Value) (w : World) (hb : w.heap[b]? = some (.cells (bookF cnt F) 70 (0, 0))) (h : Ke kdNumber B w (F 2) es X) (hN : es.length ≤ 1048576) (hes : ∀ x ∈ es, x.n ≤ 1048576 ∧ x.m ≤ 1048579) (hmk : MkdNumber es X) :
    Calls Tryz.prog 122 #[.pointer (some ⟨b, 0, none⟩)] w fun e w' => e = .returned (.bool true) ∧ Below w.heap.size w w' := by
  have c2 := book_cell hb (k := 2) (by decide) (by decide)
  obtain ⟨a, cap, hF⟩ := h.form
  rw [hF] at c2 h
  have HL := hide (And.intro h (And.intro hes hmk))
  have hNI : ((es.length : Nat) : Int) ≤ 1048576 := by omega
  clear hF h hes hb hN hmk
  obtain ⟨N, hN⟩ : ∃ N, N = es.length := ⟨_, rfl⟩
  rw [← hN] at c2 HL hNI
  have HN := hide hN
  clear hN
  go_enter Tryz.func122, Tryz.ntmps122
  go_wp2_with fail
  go_loopw [12] (fun iv wr => ∃ i : Nat, iv = .int .i64 (i : Int) ∧ i ≤ N ∧ Below w.heap.size w wr) (fun iv _ => (N - intOf iv).toNat)
  case atStart => exact ⟨0, rfl, by omega, Below.refl _ _⟩
  case round =>
    obtain ⟨i, rfl, hi, hbel⟩ := hrel
    by_cases hin : i < N
    · obtain ⟨x, hx⟩ : ∃ x, es[i]? = some x := ⟨_, List.getElem?_eq_getElem (by rw [← unhide HN]; exact hin)⟩
      have hK := (unhide HL).1.bw hbel
      obtain ⟨hxn, hxm⟩ := (unhide HL).2.1 x (List.mem_of_getElem? hx)
      have hmk := (unhide HL).2.2 i x hx
      obtain ⟨g, rfl, hBg, d1, d2, -, -⟩ := hK.entry hx
      have hr := hK.row i x hx
      obtain ⟨p, cp, hxv⟩ := own_slice hr
      rw [hxv] at d1 hr
      have hiN : (i : Int) < (N : Int) := by omega
      have hi0 : (0 : Int) ≤ (i : Int) := by omega
      have hMI : ((x.m : Nat) : Int) ≤ 1048579 := by omega
      obtain ⟨M, hM⟩ : ∃ M, M = x.m := ⟨_, rfl⟩
      obtain ⟨n, hn⟩ : ∃ n, n = x.n := ⟨_, rfl⟩
      rw [← hM] at d1 hMI hr hmk
      rw [← hn] at d2 hmk hxn
      have HV := hide (And.intro hmk hr)
      have HK : Hid (∀ z, mkNumber n [.int .i64 z] → ∀ w', Calls Tryz.prog 181 #[.int .i64 z, .int .i64 (n : Int)] w' fun e w'' => e = .returned (.bool true) ∧ Below w'.heap.size w' w'') := fun z hz w' => isNumber_b n z hz w' hxn
      have start : Hid (Below wr.heap.size wr (wr.alloc (.cells #[.slice p M cp, .int .i64 (n : Int)] 128)) ∧ (wr.alloc (.cells #[.slice p M cp, .int .i64 (n : Int)] 128)).cell? ⟨wr.heap.size, 1, none⟩ = some (.int .i64 (n : Int))) := ⟨bwA _ _, cell_of_blk (heap_alloc_new _ _) rfl⟩
      have HB := hide hbel
      clear hM hn hmk hr hK hx hxn hxm hBg hxv hbel
      go_wp2_with fail
      rename World => wo
      go_loopw [19] (fun kv wq => ∃ k : Nat, kv = .int .i64 (k : Int) ∧ k ≤ M ∧ Hid (Below wo.heap.size wo wq ∧ wq.cell? ⟨wo.heap.size, 1, none⟩ = some (.int .i64 (n : Int)))) (fun kv _ => (M - intOf kv).toNat)
      case atStart => exact ⟨0, rfl, by omega, start⟩
      case round =>
        clear start
        obtain ⟨k, rfl, hk, HR⟩ := hrel
        by_cases hkM : k < M
        · have hkM' : (k : Int) < (M : Int) := by omega
          have hk0 : (0 : Int) ≤ (k : Int) := by omega
          obtain ⟨hmk, hr⟩ := unhide HV
          obtain ⟨l, hlen, hml, hl⟩ := hmk.get hkM
          have hr2 := own_keep hr (w' := wr) (fun q hq => (unhide HR).1.block q (World.ownsRow.lt hr q hq).2)
          obtain ⟨gv, cp', e1, -⟩ := own_open hr (by omega)
          simp only [Value.slice.injEq] at e1
          obtain ⟨e1a, -, -⟩ := e1
          subst e1a
          obtain ⟨z, hz⟩ : ∃ z, l = [.int .i64 z] := ⟨_, hml⟩
          rw [hz] at hl hml
          have t0 : wr.cell? ⟨gv, k, none⟩ = some (.int .i64 z) := own_cell hr2 rfl (by simpa using hl 0 _ rfl)
          have c1 := (unhide HR).2
          have XX : Hid (∀ W, Below wr.heap.size wr W → Below wo.heap.size wo W ∧ W.cell? ⟨wo.heap.size, 1, none⟩ = some (.int .i64 (n : Int))) := fun W hb => ⟨bw_tr (unhide HR).1 hb, by rw [World.cell?_of_block (w := wr) (hb.block _ (lt_of_cell c1))]; exact c1⟩
          have hb1 : Below wr.heap.size wr wr := Below.refl _ _
          have KI := hide (unhide HK z hml wr)
          have hwl := lt_of_cell c1
          clear hmk hr hlen hml hl hr2 hz HR
          go_wp2_with fail
          refine (unhide KI).mono ?_
          rintro e w5 ⟨rfl, b5⟩
          have X5 := hide (unhide XX _ (bw_tr hb1 b5))
          clear KI b5 XX c1 t0
          go_wp2_with fail
          go_roundw
          case rel => exact ⟨k + 1, by go_num, by omega, X5⟩
          case measure => simp only [intOf]; omega
        · obtain rfl : k = M := by omega
          have hb9 := bw_tr (unhide HB) (unhide HR).1
          clear HR
          go_wp2_with fail
          go_roundw
          case rel => exact ⟨i + 1, by go_num, by omega, hb9⟩
          case measure => simp only [intOf]; omega
    · obtain rfl : i = N := by omega
      go_wp2_with fail
      go_ret
      exact ⟨rfl, hbel⟩
end Go.Proofs.YtpgppnmobbgefaaGreatDoor

/- The contract of lookNode of a Book: marks are found. -/
namespace Go.Proofs.YtpgppnmobbgefaaGreatDoor
open Go.RowKit Go.Maps

theorem isNode_b (n : Nat) (z : Int) (hz : mkNode n [.int .i64 z, .int .i64 0, .int .i64 0, .slice none 0 0]) (w : World) (h : n ≤ 1048576) : Calls Tryz.prog 192 #[.agg #[.int .i64 z, .int .i64 0, .int .i64 0, .slice none 0 0], .int .i64 (n : Int)] w fun e w' => e = .returned (.bool true) ∧ Below w.heap.size w w' := by
  obtain rfl : z = mkI n := by unfold mkNode at hz; simpa using hz
  exact (isNode_any n w (by omega))
set_option maxRecDepth 100000 in
set_option maxHeartbeats 4000000 in
theorem lookNode_b (B b : Nat) (cnt : Int) (F : Nat → Value) (es : List Ent) (X : Nat → List Value) (w : World) (hb : w.heap[b]? = some (.cells (bookF cnt F) 70 (0, 0))) (h : Ke kdNode B w (F 19) es X) (hN : es.length ≤ 1048576) (hes : ∀ x ∈ es, x.n ≤ 1048576 ∧ x.m ≤ 1048579) (hmk : MkdNode es X) :
    Calls Tryz.prog 139 #[.pointer (some ⟨b, 0, none⟩)] w fun e w' => e = .returned (.bool true) ∧ Below w.heap.size w w' := by
  have c2 := book_cell hb (k := 19) (by decide) (by decide)
  obtain ⟨a, cap, hF⟩ := h.form
  rw [hF] at c2 h
  have HL := hide (And.intro h (And.intro hes hmk))
  have hNI : ((es.length : Nat) : Int) ≤ 1048576 := by omega
  clear hF h hes hb hN hmk
  obtain ⟨N, hN⟩ : ∃ N, N = es.length := ⟨_, rfl⟩
  rw [← hN] at c2 HL hNI
  have HN := hide hN
  clear hN
  go_enter Tryz.func139, Tryz.ntmps139
  go_wp2_with fail
  go_loopw [12] (fun iv wr => ∃ i : Nat, iv = .int .i64 (i : Int) ∧ i ≤ N ∧ Below w.heap.size w wr) (fun iv _ => (N - intOf iv).toNat)
  case atStart => exact ⟨0, rfl, by omega, Below.refl _ _⟩
  case round =>
    obtain ⟨i, rfl, hi, hbel⟩ := hrel
    by_cases hin : i < N
    · obtain ⟨x, hx⟩ : ∃ x, es[i]? = some x := ⟨_, List.getElem?_eq_getElem (by rw [← unhide HN]; exact hin)⟩
      have hK := (unhide HL).1.bw hbel
      obtain ⟨hxn, hxm⟩ := (unhide HL).2.1 x (List.mem_of_getElem? hx)
      have hmk := (unhide HL).2.2 i x hx
      obtain ⟨g, rfl, hBg, d1, d2, -, -⟩ := hK.entry hx
      have hr := hK.row i x hx
      obtain ⟨p, cp, hxv⟩ := own_slice hr
      rw [hxv] at d1 hr
      have hiN : (i : Int) < (N : Int) := by omega
      have hi0 : (0 : Int) ≤ (i : Int) := by omega
      have hMI : ((x.m : Nat) : Int) ≤ 1048579 := by omega
      obtain ⟨M, hM⟩ : ∃ M, M = x.m := ⟨_, rfl⟩
      obtain ⟨n, hn⟩ : ∃ n, n = x.n := ⟨_, rfl⟩
      rw [← hM] at d1 hMI hr hmk
      rw [← hn] at d2 hmk hxn
      have HV := hide (And.intro hmk hr)
      have HK : Hid (∀ z, mkNode n [.int .i64 z, .int .i64 0, .int .i64 0, .slice none 0 0] → ∀ w', Calls Tryz.prog 192 #[.agg #[.int .i64 z, .int .i64 0, .int .i64 0, .slice none 0 0], .int .i64 (n : Int)] w' fun e w'' => e = .returned (.bool true) ∧ Below w'.heap.size w' w'') := fun z hz w' => isNode_b n z hz w' hxn
      have start : Hid (Below wr.heap.size wr (wr.alloc (.cells #[.slice p M cp, .int .i64 (n : Int)] 240)) ∧ (wr.alloc (.cells #[.slice p M cp, .int .i64 (n : Int)] 240)).cell? ⟨wr.heap.size, 1, none⟩ = some (.int .i64 (n : Int))) := ⟨bwA _ _, cell_of_blk (heap_alloc_new _ _) rfl⟩
      have HB := hide hbel
      clear hM hn hmk hr hK hx hxn hxm hBg hxv hbel
      go_wp2_with fail
      rename World => wo
      go_loopw [19] (fun kv wq => ∃ k : Nat, kv = .int .i64 (k : Int) ∧ k ≤ M ∧ Hid (Below wo.heap.size wo wq ∧ wq.cell? ⟨wo.heap.size, 1, none⟩ = some (.int .i64 (n : Int)))) (fun kv _ => (M - intOf kv).toNat)
      case atStart => exact ⟨0, rfl, by omega, start⟩
      case round =>
        clear start
        obtain ⟨k, rfl, hk, HR⟩ := hrel
        by_cases hkM : k < M
        · have hkM' : (k : Int) < (M : Int) := by omega
          have hk0 : (0 : Int) ≤ (k : Int) := by omega
          obtain ⟨hmk, hr⟩ := unhide HV
          obtain ⟨l, hlen, hml, hl⟩ := hmk.get hkM
          have hr2 := own_keep hr (w' := wr) (fun q hq => (unhide HR).1.block q (World.ownsRow.lt hr q hq).2)
          obtain ⟨gv, cp', e1, -⟩ := own_open hr (by omega)
          simp only [Value.slice.injEq] at e1
          obtain ⟨e1a, -, -⟩ := e1
          subst e1a
          obtain ⟨z, hz⟩ : ∃ z, l = [.int .i64 z, .int .i64 0, .int .i64 0, .slice none 0 0] := ⟨_, hml⟩
          rw [hz] at hl hml
          have t0 : wr.cell? ⟨gv, k * 4, none⟩ = some (.int .i64 z) := own_cell hr2 rfl (by simpa using hl 0 _ rfl); have t1 : wr.cell? ⟨gv, k * 4 + 1, none⟩ = some (.int .i64 0) := own_cell hr2 rfl (hl 1 _ rfl); have t2 : wr.cell? ⟨gv, k * 4 + 2, none⟩ = some (.int .i64 0) := own_cell hr2 rfl (hl 2 _ rfl); have t3 : wr.cell? ⟨gv, k * 4 + 3, none⟩ = some (.slice none 0 0) := own_cell hr2 rfl (hl 3 _ rfl)
          have c1 := (unhide HR).2
          have XX : Hid (∀ W, Below wr.heap.size wr W → Below wo.heap.size wo W ∧ W.cell? ⟨wo.heap.size, 1, none⟩ = some (.int .i64 (n : Int))) := fun W hb => ⟨bw_tr (unhide HR).1 hb, by rw [World.cell?_of_block (w := wr) (hb.block _ (lt_of_cell c1))]; exact c1⟩
          have hb1 : Below wr.heap.size wr (wr.alloc (.cells #[.int .i64 z, .int .i64 0, .int .i64 0, .slice none 0 0] 95)) := bwA wr _
          have KI := hide (unhide HK z hml (wr.alloc (.cells #[.int .i64 z, .int .i64 0, .int .i64 0, .slice none 0 0] 95)))
          have hwl := lt_of_cell c1
          clear hmk hr hlen hml hl hr2 hz HR
          go_wp2_with fail
          refine (unhide KI).mono ?_
          rintro e w5 ⟨rfl, b5⟩
          have X5 := hide (unhide XX _ (bw_tr hb1 b5))
          clear KI b5 XX c1 t0 t1 t2 t3
          go_wp2_with fail
          go_roundw
          case rel => exact ⟨k + 1, by go_num, by omega, X5⟩
          case measure => simp only [intOf]; omega
        · obtain rfl : k = M := by omega
          have hb9 := bw_tr (unhide HB) (unhide HR).1
          clear HR
          go_wp2_with fail
          go_roundw
          case rel => exact ⟨i + 1, by go_num, by omega, hb9⟩
          case measure => simp only [intOf]; omega
    · obtain rfl : i = N := by omega
      go_wp2_with fail
      go_ret
      exact ⟨rfl, hbel⟩
end Go.Proofs.YtpgppnmobbgefaaGreatDoor
