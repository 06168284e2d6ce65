/- The texts of layer 6's laws; the document's Cost. -/
import Derived.Test.YtimhjheigejjmabJnR
namespace Go.Proofs.Ytimhjheigejjmab
open Go.RowKit Go.Maps

def gbyte (b : Int) (i : Nat) : UInt8 := UInt8.ofNat ((b + ((i % 7 : Nat) : Int)) % 256).toNat
def gil (b : Int) (n : Nat) : ByteArray := ⟨((List.range n).map (gbyte b)).toArray⟩
theorem gil_size (b : Int) (n : Nat) : (gil b n).size = n := by simp [gil, ByteArray.size]
def gilC (b : Int) (n i : Nat) : List Value := (List.range n).map fun j => if j < i then .int .u8 ((gbyte b j).toNat : Int) else .int .u8 0
theorem gbyte_val (b : Int) (i : Nat) : ((gbyte b i).toNat : Int) = (b + ((i % 7 : Nat) : Int)) % 256 := by
  unfold gbyte
  have h1 : 0 ≤ (b + ((i % 7 : Nat) : Int)) % 256 := Int.emod_nonneg _ (by decide)
  have h2 : (b + ((i % 7 : Nat) : Int)) % 256 < 256 := Int.emod_lt_of_pos _ (by decide)
  rw [UInt8.toNat_ofNat', Nat.mod_eq_of_lt (by omega)]
  omega
theorem gilC_set (b : Int) {n i : Nat} (h : i < n) : (gilC b n i).set i (.int .u8 ((b + ((i % 7 : Nat) : Int)) % 256)) = gilC b n (i + 1) := by
  apply List.ext_getElem?
  intro j
  rw [List.getElem?_set]
  simp only [gilC, List.length_map, List.length_range, List.getElem?_map]
  by_cases c : i = j
  · subst c
    simp [h, gbyte_val]
  · simp only [c, if_false]
    by_cases q : j < n
    · simp only [List.getElem?_range q, Option.map_some]
      by_cases e : j < i
      · simp [e, show j < i + 1 by omega]
      · simp [e, show ¬ j < i + 1 by omega]
    · simp [q]
theorem gilC_zero (b : Int) (n : Nat) : gilC b n 0 = filC 0 n 0 := by simp [gilC, filC]
set_option maxRecDepth 100000 in
set_option maxHeartbeats 4000000 in
theorem text6_any (n : Nat) (b : Int) (hb0 : 0 ≤ b) (hb1 : b ≤ 255) (hle : n ≤ 131072) (w : World) :
    Calls Try.prog 32 #[.int .i64 (n : Int), .int .u8 b] w fun e w' => e = .returned (.string (gil b n)) ∧ Below w.heap.size w w' := by
  obtain ⟨i0, hi, hz0, hz1, hz2⟩ := info_u8
  have hB1 : i0.bytes * n ≤ 281474976710656 := by rw [hz2]; omega
  have hB2 : n ≤ maxLen := by unfold maxLen; omega
  have HB := hide (And.intro hB1 (And.intro hB2 (And.intro hb0 (And.intro hb1 hle))))
  have c1 : (0 : Int) ≤ (n : Int) := by omega
  have c2 : (n : Int) ≤ 131072 := by omega
  clear hB1 hB2
  go_enter Try.func32, Try.ntmps32
  go_wp2_with (first | (at_make; refine wpList_make_full _ rfl _ _ 76 rfl w.heap.size 5 i0 (.int .u8 0) 1 Try.underlying76 hi hz0 hz1 _ _ _ _ n rfl rfl rfl rfl (unhide HB).1 (unhide HB).2.1 (Nat.le_refl _) ?_; intro w1 hrow1 hgr1))
  have HR0 : Hid (w1.ownsRow w.heap.size 5 1 (.slice (some ⟨w.heap.size, 0, none⟩) n n) n (gilC b n 0) ∧ Below w.heap.size w w1) := by
    rw [made_zero, ← gilC_zero b n] at hrow1
    exact ⟨hrow1, ⟨hgr1.os, hgr1.tape, hgr1.output, hgr1.size, fun k hk => hgr1.block k hk (by simp)⟩⟩
  clear hrow1 hgr1
  go_wp2_with fail
  go_loopw [6] (fun iv wr => ∃ i : Nat, i ≤ n ∧ iv = .int .i64 (i : Int) ∧ Hid (wr.ownsRow w.heap.size 5 1 (.slice (some ⟨w.heap.size, 0, none⟩) n n) n (gilC b n i) ∧ Below w.heap.size w wr)) (fun iv _ => (n - intOf iv).toNat)
  case atStart => exact ⟨0, by omega, rfl, HR0⟩
  case round =>
    clear HR0
    obtain ⟨i, hi', rfl, HR⟩ := hrel
    by_cases hlt : i < n
    · have hi1 : (i : Int) < (n : Int) := by omega
      have hc : ∃ u, wr.cell? ⟨w.heap.size, i, none⟩ = some u := by
        refine ⟨_, own_cell (unhide HR).1 rfl (j := i) (u := (gilC b n i)[i]'(by simp [gilC, hlt])) (List.getElem?_eq_getElem _)⟩
      obtain ⟨u, hu⟩ := hc
      have hfz := own_frozen (unhide HR).1 (g := w.heap.size) rfl i
      have hmod : ((i : Int) % 7) = ((i % 7 : Nat) : Int) := by omega
      have htm : Int.tmod (i : Int) 7 = ((i % 7 : Nat) : Int) := by rw [Int.tmod_eq_emod_of_nonneg (by omega)]; omega
      have hr2 : i % 7 < 7 := Nat.mod_lt _ (by decide)
      obtain ⟨r, hr⟩ : ∃ r, r = i % 7 := ⟨_, rfl⟩
      rw [← hr] at hmod htm hr2
      have hr3 : IntKind.u8.wrap (r : Int) = (r : Int) := by simp [IntKind.wrap, IntKind.bits, IntKind.signed]; omega
      have hr4 : IntKind.u8.wrap (b + (r : Int)) = (b + (r : Int)) % 256 := by simp [IntKind.wrap, IntKind.bits, IntKind.signed]
      have HX := hide (And.intro hr hlt)
      clear hr hi'
      go_wp2_with fail
      refine ⟨⟨i + 1, by have := (unhide HX).2; omega, by go_num, ?_, ?_⟩, by simp only [intOf]; omega⟩
      · have := own_set (unhide HR).1 (g := w.heap.size) rfl (j := i) (.int .u8 ((b + (r : Int)) % 256))
        rw [(unhide HX).1, gilC_set b (unhide HX).2] at this
        rw [(unhide HX).1]
        exact this
      · exact Fr.toBase (S := [w.heap.size]) (unhide HR).2 ((Fr.refl [w.heap.size] wr).setCell (Or.inr (by simp)) _) (by simp)
    · obtain rfl : i = n := by omega
      have hcv := run_convert_bytes_back (P := Try.prog) wr 76 9 5 ⟨w.heap.size, 0, none⟩ i ((List.range i).map (gbyte b)) Try.underlying76 Try.underlying5 Try.underlying9 (fun j hj => by
        have hj' : j < i := by simpa using hj
        rw [Addr.add_mid, Nat.zero_add]
        refine own_cell (unhide HR).1 rfl ?_
        simp [gilC, hj'])
      simp only [List.length_map, List.length_range] at hcv
      have hfe : (⟨((List.range i).map (gbyte b)).toArray⟩ : ByteArray) = gil b i := rfl
      rw [hfe] at hcv
      clear hlt hi' hfe
      go_wp2_with fail
      go_ret
      exact ⟨rfl, (unhide HR).2⟩
theorem rcost_low (n : Int) (w : World) (h : n < 0) : Calls Try.prog 31 #[.int .i64 n] w fun e w' => e = .returned (.tuple #[.int .i64 0, .int .i64 1]) ∧ w' = w := by
  go_enter Try.func31, Try.ntmps31
  go_wp2
  go_ret2
  exact ⟨rfl, rfl⟩
theorem rcost_any (n : Nat) (w : World) (h : n ≤ 9223372036854775807) : Calls Try.prog 31 #[.int .i64 (n : Int)] w fun e w' => e = .returned (.tuple #[.int .i64 (costN n : Int), .int .i64 0]) ∧ w' = w := by
  have hd1 : Int.tdiv (n : Int) 64 = ((n / 64 : Nat) : Int) := by rw [Int.tdiv_eq_ediv_of_nonneg (by omega)]; omega
  have hd2 : (n : Int) / 64 = ((n / 64 : Nat) : Int) := by omega
  have hm1 : Int.tmod (n : Int) 64 = ((n % 64 : Nat) : Int) := by rw [Int.tmod_eq_emod_of_nonneg (by omega)]; omega
  have hm2 : (n : Int) % 64 = ((n % 64 : Nat) : Int) := by omega
  have hq : n / 64 ≤ 144115188075855871 := by omega
  have hn0 : ¬ ((n : Int) < 0) := by omega
  by_cases hr : n % 64 = 0
  · have e : (costN n : Int) = ((n / 64 : Nat) : Int) + 3 := by simp only [costN, hr, if_true]; omega
    rw [e]
    rw [hr] at hm1 hm2
    generalize n / 64 = q at *
    clear e hr h
    go_enter Try.func31, Try.ntmps31
    go_wp2_with fail
    go_ret2
    exact ⟨by go_num, rfl⟩
  · have e : (costN n : Int) = ((n / 64 : Nat) : Int) + 1 + 3 := by simp only [costN, hr, if_false]; omega
    rw [e]
    have hr2 : 0 < ((n % 64 : Nat) : Int) := by omega
    generalize n / 64 = q at *
    generalize ((n % 64 : Nat) : Int) = r at *
    clear e hr h
    go_enter Try.func31, Try.ntmps31
    go_wp2_with fail
    go_ret2
    exact ⟨by go_num, rfl⟩
end Go.Proofs.Ytimhjheigejjmab
