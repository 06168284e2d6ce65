/- Contract of Filled: a sector of a byte. -/
import Derived.Test.YtimhjheigejjmabDkG
namespace Go.Proofs.Ytimhjheigejjmab
open Go.RowKit Go.Maps

def fbyte (b : Int) (i : Nat) : UInt8 := UInt8.ofNat ((b + ((i % 2 : Nat) : Int)) % 256).toNat
def fil (b : Int) (n : Nat) : ByteArray := ⟨((List.range n).map (fbyte b)).toArray⟩
def fln (less : Int) : Nat := if IntKind.i64.wrap (64 - less) < 0 ∨ 128 < IntKind.i64.wrap (64 - less) then 0 else (IntKind.i64.wrap (64 - less)).toNat
theorem fil_size (b : Int) (n : Nat) : (fil b n).size = n := by simp [fil, ByteArray.size]
theorem fln_le (less : Int) : fln less ≤ 128 := by unfold fln; split <;> omega
def filC (b : Int) (n i : Nat) : List Value := (List.range n).map fun j => if j < i then .int .u8 ((fbyte b j).toNat : Int) else .int .u8 0
theorem fbyte_val (b : Int) (i : Nat) : ((fbyte b i).toNat : Int) = (b + ((i % 2 : Nat) : Int)) % 256 := by
  unfold fbyte
  have h1 : 0 ≤ (b + ((i % 2 : Nat) : Int)) % 256 := Int.emod_nonneg _ (by decide)
  have h2 : (b + ((i % 2 : Nat) : Int)) % 256 < 256 := Int.emod_lt_of_pos _ (by decide)
  rw [UInt8.toNat_ofNat', Nat.mod_eq_of_lt (by omega)]
  omega
theorem filC_set (b : Int) {n i : Nat} (h : i < n) : (filC b n i).set i (.int .u8 ((b + ((i % 2 : Nat) : Int)) % 256)) = filC b n (i + 1) := by
  apply List.ext_getElem?
  intro j
  rw [List.getElem?_set]
  simp only [filC, List.length_map, List.length_range, List.getElem?_map]
  by_cases c : i = j
  · subst c
    simp [h, fbyte_val]
  · simp only [c, if_false]
    by_cases q : j < n
    · simp only [List.getElem?_range q, Option.map_some]
      by_cases e : j < i
      · simp [e, show j < i + 1 by omega]
      · simp [e, show ¬ j < i + 1 by omega]
    · simp [q]
theorem Try.infoU8s : (Try.prog.info? 5).map (fun i => (i.zero, i.size, i.bytes)) = some (some (.int .u8 0), 1, 1) := by kernel_rfl
theorem info_u8 : ∃ i, Try.prog.info? 5 = some i ∧ i.zero = some (.int .u8 0) ∧ i.size = 1 ∧ i.bytes = 1 := by
  have h := Try.infoU8s
  cases hi : Try.prog.info? 5 with
  | none => rw [hi] at h; cases h
  | some i => rw [hi] at h; simp at h; exact ⟨i, rfl, h.1, h.2.1, h.2.2⟩
theorem made_zero (n : Nat) : (madeCells (Value.int .u8 0).cells (n * 1)).toList = filC 0 n 0 := by
  apply List.ext_getElem?
  intro j
  simp only [filC, List.getElem?_map]
  by_cases q : j < n
  · have e : j % 1 = 0 := Nat.mod_one j
    simp [madeCells, Value.cells, q, e]
  · simp [madeCells, Value.cells, q]
theorem filC_zero (b : Int) (n : Nat) : filC b n 0 = filC 0 n 0 := by simp [filC]
set_option maxRecDepth 100000 in
set_option maxHeartbeats 4000000 in
theorem filled_any (b less : Int) (hb0 : 0 ≤ b) (hb1 : b ≤ 255) (w : World) :
    Calls Try.prog 35 #[.int .u8 b, .int .i64 less] w fun e w' => e = .returned (.string (fil b (fln less))) ∧ Below w.heap.size w w' := by
  obtain ⟨i0, hi, hz0, hz1, hz2⟩ := info_u8
  have hle := fln_le less
  obtain ⟨n, hn⟩ : ∃ n, n = fln less := ⟨_, rfl⟩
  rw [← hn] at hle ⊢
  obtain ⟨m, hm⟩ : ∃ m, m = IntKind.i64.wrap (64 - less) := ⟨_, rfl⟩
  have hcase : (m < 0 ∧ n = 0) ∨ (128 < m ∧ n = 0) ∨ (0 ≤ m ∧ m ≤ 128 ∧ m = (n : Int)) := by
    unfold fln at hn
    rw [← hm] at hn
    split at hn <;> omega
  have hB1 : i0.bytes * n ≤ 281474976710656 := by rw [hz2]; omega
  have hB2 : n ≤ maxLen := by unfold maxLen; omega
  have HB := hide (And.intro hB1 (And.intro hB2 (And.intro hb0 (And.intro hb1 hle))))
  have w64 : IntKind.i64.wrap (64 - less) = m := hm.symm
  clear hn hB1 hB2 hm
  rcases hcase with ⟨c1, hn0⟩ | ⟨c1, hn0⟩ | ⟨c1, c2, c3⟩
  · have HN0 := hide hn0
    clear hn0
    go_enter Try.func35, Try.ntmps35
    go_wp2_with (first | (at_make; refine wpList_make_full _ rfl _ _ 76 rfl w.heap.size 5 i0 (.int .u8 0) 1 Try.underlying76 hi hz0 hz1 _ _ _ _ n rfl rfl (by first | rfl | omega | (have := unhide HN0; omega)) (by first | rfl | omega | (have := unhide HN0; omega)) (unhide HB).1 (unhide HB).2.1 (Nat.le_refl _) ?_; intro w1 hrow1 hgr1))
    have HR0 : Hid (w1.ownsRow w.heap.size 5 1 (.slice (some ⟨w.heap.size, 0, none⟩) n n) n (filC b n 0) ∧ Below w.heap.size w w1) := by
      rw [made_zero, ← filC_zero b n] at hrow1
      exact ⟨hrow1, ⟨hgr1.os, hgr1.tape, hgr1.output, hgr1.size, fun k hk => hgr1.block k hk (by simp)⟩⟩
    clear hrow1 hgr1
    go_wp2_with fail
    go_loopw [7] (fun iv wr => ∃ i : Nat, i ≤ n ∧ iv = .int .i64 (i : Int) ∧ Hid (wr.ownsRow w.heap.size 5 1 (.slice (some ⟨w.heap.size, 0, none⟩) n n) n (filC b n i) ∧ Below w.heap.size w wr)) (fun iv _ => (n - intOf iv).toNat)
    case atStart => exact ⟨0, by omega, rfl, HR0⟩
    case round =>
      clear HR0
      obtain ⟨i, hi', rfl, HR⟩ := hrel
      by_cases hlt : i < n
      · have hi1 : (i : Int) < (n : Int) := by omega
        have hc : ∃ u, wr.cell? ⟨w.heap.size, i, none⟩ = some u := by
          refine ⟨_, own_cell (unhide HR).1 rfl (j := i) (u := (filC b n i)[i]'(by simp [filC, hlt])) (List.getElem?_eq_getElem _)⟩
        obtain ⟨u, hu⟩ := hc
        have hfz := own_frozen (unhide HR).1 (g := w.heap.size) rfl i
        have hmod : ((i : Int) % 2) = ((i % 2 : Nat) : Int) := by omega
        have htm : Int.tmod (i : Int) 2 = ((i % 2 : Nat) : Int) := by rw [Int.tmod_eq_emod_of_nonneg (by omega)]; omega
        have hr2 : i % 2 < 2 := Nat.mod_lt _ (by decide)
        obtain ⟨r, hr⟩ : ∃ r, r = i % 2 := ⟨_, rfl⟩
        rw [← hr] at hmod htm hr2
        have hr3 : IntKind.u8.wrap (r : Int) = (r : Int) := by simp [IntKind.wrap, IntKind.bits, IntKind.signed]; omega
        have hr4 : IntKind.u8.wrap (b + (r : Int)) = (b + (r : Int)) % 256 := by simp [IntKind.wrap, IntKind.bits, IntKind.signed]
        have HX := hide (And.intro hr hlt)
        clear hr hi'
        go_wp2_with fail
        refine ⟨⟨i + 1, by have := (unhide HX).2; omega, by go_num, ?_, ?_⟩, by simp only [intOf]; omega⟩
        · have := own_set (unhide HR).1 (g := w.heap.size) rfl (j := i) (.int .u8 ((b + (r : Int)) % 256))
          rw [(unhide HX).1, filC_set b (unhide HX).2] at this
          rw [(unhide HX).1]
          exact this
        · exact Fr.toBase (S := [w.heap.size]) (unhide HR).2 ((Fr.refl [w.heap.size] wr).setCell (Or.inr (by simp)) _) (by simp)
      · obtain rfl : i = n := by omega
        have hcv := run_convert_bytes_back (P := Try.prog) wr 76 9 5 ⟨w.heap.size, 0, none⟩ i ((List.range i).map (fbyte b)) Try.underlying76 Try.underlying5 Try.underlying9 (fun j hj => by
          have hj' : j < i := by simpa using hj
          rw [Addr.add_mid, Nat.zero_add]
          refine own_cell (unhide HR).1 rfl ?_
          simp [filC, hj'])
        simp only [List.length_map, List.length_range] at hcv
        have hfe : (⟨((List.range i).map (fbyte b)).toArray⟩ : ByteArray) = fil b i := rfl
        rw [hfe] at hcv
        clear hlt hi' hfe
        go_wp2_with fail
        go_ret
        exact ⟨rfl, (unhide HR).2⟩
  · have HN0 := hide hn0
    clear hn0
    go_enter Try.func35, Try.ntmps35
    go_wp2_with (first | (at_make; refine wpList_make_full _ rfl _ _ 76 rfl w.heap.size 5 i0 (.int .u8 0) 1 Try.underlying76 hi hz0 hz1 _ _ _ _ n rfl rfl (by first | rfl | omega | (have := unhide HN0; omega)) (by first | rfl | omega | (have := unhide HN0; omega)) (unhide HB).1 (unhide HB).2.1 (Nat.le_refl _) ?_; intro w1 hrow1 hgr1))
    have HR0 : Hid (w1.ownsRow w.heap.size 5 1 (.slice (some ⟨w.heap.size, 0, none⟩) n n) n (filC b n 0) ∧ Below w.heap.size w w1) := by
      rw [made_zero, ← filC_zero b n] at hrow1
      exact ⟨hrow1, ⟨hgr1.os, hgr1.tape, hgr1.output, hgr1.size, fun k hk => hgr1.block k hk (by simp)⟩⟩
    clear hrow1 hgr1
    go_wp2_with fail
    go_loopw [7] (fun iv wr => ∃ i : Nat, i ≤ n ∧ iv = .int .i64 (i : Int) ∧ Hid (wr.ownsRow w.heap.size 5 1 (.slice (some ⟨w.heap.size, 0, none⟩) n n) n (filC b n i) ∧ Below w.heap.size w wr)) (fun iv _ => (n - intOf iv).toNat)
    case atStart => exact ⟨0, by omega, rfl, HR0⟩
    case round =>
      clear HR0
      obtain ⟨i, hi', rfl, HR⟩ := hrel
      by_cases hlt : i < n
      · have hi1 : (i : Int) < (n : Int) := by omega
        have hc : ∃ u, wr.cell? ⟨w.heap.size, i, none⟩ = some u := by
          refine ⟨_, own_cell (unhide HR).1 rfl (j := i) (u := (filC b n i)[i]'(by simp [filC, hlt])) (List.getElem?_eq_getElem _)⟩
        obtain ⟨u, hu⟩ := hc
        have hfz := own_frozen (unhide HR).1 (g := w.heap.size) rfl i
        have hmod : ((i : Int) % 2) = ((i % 2 : Nat) : Int) := by omega
        have htm : Int.tmod (i : Int) 2 = ((i % 2 : Nat) : Int) := by rw [Int.tmod_eq_emod_of_nonneg (by omega)]; omega
        have hr2 : i % 2 < 2 := Nat.mod_lt _ (by decide)
        obtain ⟨r, hr⟩ : ∃ r, r = i % 2 := ⟨_, rfl⟩
        rw [← hr] at hmod htm hr2
        have hr3 : IntKind.u8.wrap (r : Int) = (r : Int) := by simp [IntKind.wrap, IntKind.bits, IntKind.signed]; omega
        have hr4 : IntKind.u8.wrap (b + (r : Int)) = (b + (r : Int)) % 256 := by simp [IntKind.wrap, IntKind.bits, IntKind.signed]
        have HX := hide (And.intro hr hlt)
        clear hr hi'
        go_wp2_with fail
        refine ⟨⟨i + 1, by have := (unhide HX).2; omega, by go_num, ?_, ?_⟩, by simp only [intOf]; omega⟩
        · have := own_set (unhide HR).1 (g := w.heap.size) rfl (j := i) (.int .u8 ((b + (r : Int)) % 256))
          rw [(unhide HX).1, filC_set b (unhide HX).2] at this
          rw [(unhide HX).1]
          exact this
        · exact Fr.toBase (S := [w.heap.size]) (unhide HR).2 ((Fr.refl [w.heap.size] wr).setCell (Or.inr (by simp)) _) (by simp)
      · obtain rfl : i = n := by omega
        have hcv := run_convert_bytes_back (P := Try.prog) wr 76 9 5 ⟨w.heap.size, 0, none⟩ i ((List.range i).map (fbyte b)) Try.underlying76 Try.underlying5 Try.underlying9 (fun j hj => by
          have hj' : j < i := by simpa using hj
          rw [Addr.add_mid, Nat.zero_add]
          refine own_cell (unhide HR).1 rfl ?_
          simp [filC, hj'])
        simp only [List.length_map, List.length_range] at hcv
        have hfe : (⟨((List.range i).map (fbyte b)).toArray⟩ : ByteArray) = fil b i := rfl
        rw [hfe] at hcv
        clear hlt hi' hfe
        go_wp2_with fail
        go_ret
        exact ⟨rfl, (unhide HR).2⟩
  · have HN0 : Hid (m = (n : Int)) := c3
    go_enter Try.func35, Try.ntmps35
    go_wp2_with (first | (at_make; refine wpList_make_full _ rfl _ _ 76 rfl w.heap.size 5 i0 (.int .u8 0) 1 Try.underlying76 hi hz0 hz1 _ _ _ _ n rfl rfl (by first | rfl | omega | (have := unhide HN0; omega)) (by first | rfl | omega | (have := unhide HN0; omega)) (unhide HB).1 (unhide HB).2.1 (Nat.le_refl _) ?_; intro w1 hrow1 hgr1))
    have HR0 : Hid (w1.ownsRow w.heap.size 5 1 (.slice (some ⟨w.heap.size, 0, none⟩) n n) n (filC b n 0) ∧ Below w.heap.size w w1) := by
      rw [made_zero, ← filC_zero b n] at hrow1
      exact ⟨hrow1, ⟨hgr1.os, hgr1.tape, hgr1.output, hgr1.size, fun k hk => hgr1.block k hk (by simp)⟩⟩
    clear hrow1 hgr1
    go_wp2_with fail
    go_loopw [7] (fun iv wr => ∃ i : Nat, i ≤ n ∧ iv = .int .i64 (i : Int) ∧ Hid (wr.ownsRow w.heap.size 5 1 (.slice (some ⟨w.heap.size, 0, none⟩) n n) n (filC b n i) ∧ Below w.heap.size w wr)) (fun iv _ => (n - intOf iv).toNat)
    case atStart => exact ⟨0, by omega, rfl, HR0⟩
    case round =>
      clear HR0
      obtain ⟨i, hi', rfl, HR⟩ := hrel
      by_cases hlt : i < n
      · have hi1 : (i : Int) < (n : Int) := by omega
        have hc : ∃ u, wr.cell? ⟨w.heap.size, i, none⟩ = some u := by
          refine ⟨_, own_cell (unhide HR).1 rfl (j := i) (u := (filC b n i)[i]'(by simp [filC, hlt])) (List.getElem?_eq_getElem _)⟩
        obtain ⟨u, hu⟩ := hc
        have hfz := own_frozen (unhide HR).1 (g := w.heap.size) rfl i
        have hmod : ((i : Int) % 2) = ((i % 2 : Nat) : Int) := by omega
        have htm : Int.tmod (i : Int) 2 = ((i % 2 : Nat) : Int) := by rw [Int.tmod_eq_emod_of_nonneg (by omega)]; omega
        have hr2 : i % 2 < 2 := Nat.mod_lt _ (by decide)
        obtain ⟨r, hr⟩ : ∃ r, r = i % 2 := ⟨_, rfl⟩
        rw [← hr] at hmod htm hr2
        have hr3 : IntKind.u8.wrap (r : Int) = (r : Int) := by simp [IntKind.wrap, IntKind.bits, IntKind.signed]; omega
        have hr4 : IntKind.u8.wrap (b + (r : Int)) = (b + (r : Int)) % 256 := by simp [IntKind.wrap, IntKind.bits, IntKind.signed]
        have HX := hide (And.intro hr hlt)
        clear hr hi'
        go_wp2_with fail
        refine ⟨⟨i + 1, by have := (unhide HX).2; omega, by go_num, ?_, ?_⟩, by simp only [intOf]; omega⟩
        · have := own_set (unhide HR).1 (g := w.heap.size) rfl (j := i) (.int .u8 ((b + (r : Int)) % 256))
          rw [(unhide HX).1, filC_set b (unhide HX).2] at this
          rw [(unhide HX).1]
          exact this
        · exact Fr.toBase (S := [w.heap.size]) (unhide HR).2 ((Fr.refl [w.heap.size] wr).setCell (Or.inr (by simp)) _) (by simp)
      · obtain rfl : i = n := by omega
        have hcv := run_convert_bytes_back (P := Try.prog) wr 76 9 5 ⟨w.heap.size, 0, none⟩ i ((List.range i).map (fbyte b)) Try.underlying76 Try.underlying5 Try.underlying9 (fun j hj => by
          have hj' : j < i := by simpa using hj
          rw [Addr.add_mid, Nat.zero_add]
          refine own_cell (unhide HR).1 rfl ?_
          simp [filC, hj'])
        simp only [List.length_map, List.length_range] at hcv
        have hfe : (⟨((List.range i).map (fbyte b)).toArray⟩ : ByteArray) = fil b i := rfl
        rw [hfe] at hcv
        clear hlt hi' hfe
        go_wp2_with fail
        go_ret
        exact ⟨rfl, (unhide HR).2⟩

end Go.Proofs.Ytimhjheigejjmab
