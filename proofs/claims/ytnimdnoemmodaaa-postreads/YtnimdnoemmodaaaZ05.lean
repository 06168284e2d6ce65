/- Texts joined: TrC LgD TsA TsC. -/
import Derived.Test.YtnimdnoemmodaaaZ03
/- Contracts of unmergedMayBe and nodeMayBe. -/
namespace Go.Proofs.Ytnimdnoemmodaaa
open Go.RowKit Go.Maps
end Go.Proofs.Ytnimdnoemmodaaa

/- SameAdds, SameSeals, SameJoins of equal rows. -/
namespace Go.Proofs.Ytnimdnoemmodaaa
open Go.RowKit Go.Maps
theorem wf_i64' {x : Int} (h : -9223372036854775808 ≤ x ∧ x ≤ 9223372036854775807) : (Lit.int .i64 x).wf = true := by
  simpa [Lit.wf, IntKind.min, IntKind.max, IntKind.signed, IntKind.bits] using h
theorem Try.cellsAddsx : Try.prog.cellsOf 91 = 3 := by kernel_rfl
theorem Try.wideAddsx : (match Try.prog.underlying 91 with | some (.array _ _) | some (.struct _) => true | _ => false) = true := by kernel_rfl
theorem keyOf_Adds (z0 z1 z2 : Int) (h0 : -9223372036854775808 ≤ z0 ∧ z0 ≤ 9223372036854775807) (h1 : -9223372036854775808 ≤ z1 ∧ z1 ≤ 9223372036854775807) (h2 : -9223372036854775808 ≤ z2 ∧ z2 ≤ 9223372036854775807) : ∃ kl, keyOf Try.prog 91 (.agg #[.int .i64 z0, .int .i64 z1, .int .i64 z2]) = some kl := by
  have hk : Try.prog.keyType 91 = true := by kernel_rfl
  have hf : (Value.agg #[.int .i64 z0, .int .i64 z1, .int .i64 z2]).formed Try.prog 91 = true := by
    have u0 := Try.underlying91
    have c0 := Try.cellsAddsx
    generalize Try.prog = P at *
    simp [Value.formed, u0, c0]
  obtain ⟨m, hm⟩ : ∃ m, Try.prog.types.size = m + 1 := ⟨Try.prog.types.size - 1, by have : 0 < Try.prog.types.size := of_decide_eq_true (by kernel_rfl); omega⟩
  have c3 : Try.prog.cellsOf 3 = 1 := by kernel_rfl
  refine ⟨.string (keyBytes [.int .i64 z0, .int .i64 z1, .int .i64 z2]), ?_⟩
  have w0 := wf_i64' h0
  have w1 := wf_i64' h1
  have w2 := wf_i64' h2
  have u0 := Try.underlying91
  have u3 := Try.underlying3
  have c0 := Try.cellsAddsx
  generalize Try.prog = P at *
  simp only [keyOf, u0, hk, hf, hm, Bool.and_self, if_true]
  simp [Program.keyLits, u0, u3, c0, c3, Value.cells, w0, w1, w2]
set_option maxRecDepth 100000 in
theorem equal_Adds (w : World) (z0 z1 z2 : Int) (h0 : -9223372036854775808 ≤ z0 ∧ z0 ≤ 9223372036854775807) (h1 : -9223372036854775808 ≤ z1 ∧ z1 ≤ 9223372036854775807) (h2 : -9223372036854775808 ≤ z2 ∧ z2 ≤ 9223372036854775807) : (Op.equal 91 (.agg #[.int .i64 z0, .int .i64 z1, .int .i64 z2]) (.agg #[.int .i64 z0, .int .i64 z1, .int .i64 z2])).run Try.prog w = .ok true w := by
  obtain ⟨x, hx⟩ := keyOf_Adds z0 z1 z2 h0 h1 h2
  obtain ⟨r, hr, hiff⟩ := run_equal_deep w (m := 3) (by omega) (by kernel_rfl) Try.wideAddsx hx hx
  rw [hr, hiff.2 rfl]
set_option maxRecDepth 100000 in
set_option maxHeartbeats 4000000 in
theorem sameAdds_any (va vb : Value) (l : List (List Int)) (w : World) (ha : RI 3 w va l) (hb : RI 3 w vb l) :
    Calls Try.prog 61 #[va, vb] w fun e w' => e = .returned (.bool true) ∧ Below w.heap.size w w' := by
  obtain ⟨a, ca, rfl⟩ := ha.slice
  obtain ⟨b, cb, rfl⟩ := hb.slice
  have hlA := ha.len
  have hok := ha.fit
  obtain ⟨N, hN⟩ : ∃ N, N = l.length := ⟨_, rfl⟩
  rw [← hN] at ha hb hlA ⊢
  have hNb : (N : Int) ≤ 140737488355328 := by omega
  have HH := hide (And.intro ha (And.intro hb (And.intro hok hN)))
  clear ha hb hok hN hlA
  go_enter Try.func61, Try.ntmps61
  go_wp2_with fail
  go_loopw [13] (fun iv wr => ∃ i : Nat, iv = .int .i64 i ∧ i ≤ N ∧ Hid (Below w.heap.size w wr)) (fun iv _ => (N - (intOf iv)).toNat)
  case atStart => exact ⟨0, rfl, by omega, Below.refl _ _⟩
  case round =>
    obtain ⟨i, rfl, hi, hbel⟩ := hrel
    by_cases hin : i < N
    · obtain ⟨ha, hb, hok, hN⟩ := unhide HH
      obtain ⟨z, hz⟩ : ∃ z, l[i]? = some z := ⟨_, List.getElem?_eq_getElem (by omega)⟩
      obtain ⟨g, o, rfl, hc1⟩ := (ha.bw (unhide hbel)).get hz
      obtain ⟨g', o', rfl, hc2⟩ := (hb.bw (unhide hbel)).get hz
      obtain ⟨hz1, hz2⟩ := hok z (List.mem_of_getElem? hz)
      obtain ⟨z0, z1, z2, rfl⟩ : ∃ z0 z1 z2, z = [z0, z1, z2] := by
        match z, hz1 with
        | [z0, z1, z2], _ => exact ⟨z0, z1, z2, rfl⟩
      have he : ∀ W, (Op.equal 91 (.agg #[.int .i64 z0, .int .i64 z1, .int .i64 z2]) (.agg #[.int .i64 z0, .int .i64 z1, .int .i64 z2])).run Try.prog W = .ok true W := fun W => equal_Adds W z0 z1 z2 (hz2 z0 (by simp)) (hz2 z1 (by simp)) (hz2 z2 (by simp))
      have c0 := hc1 0 _ rfl
      have d0 := hc2 0 _ rfl
      have c1 := hc1 1 _ rfl
      have d1 := hc2 1 _ rfl
      have c2 := hc1 2 _ rfl
      have d2 := hc2 2 _ rfl
      simp only [Nat.add_zero] at c0 d0
      have hi1 : (i : Int) < (N : Int) := by omega
      clear ha hb hok hN hz HH hc1 hc2 hz1 hz2
      go_wp2_with fail
      go_quiet (fail)
      go_wp2_with fail
      go_roundw
      case rel => exact ⟨i + 1, by go_num, by omega, below_drewN (unhide hbel) _⟩
      case measure => simp [intOf]; omega
    · have hie : i = N := by omega
      subst hie
      clear HH
      go_wp2_with fail
      go_ret
      exact ⟨rfl, unhide hbel⟩
theorem Try.cellsSealsx : Try.prog.cellsOf 95 = 3 := by kernel_rfl
theorem Try.wideSealsx : (match Try.prog.underlying 95 with | some (.array _ _) | some (.struct _) => true | _ => false) = true := by kernel_rfl
theorem keyOf_Seals (z0 z1 z2 : Int) (h0 : -9223372036854775808 ≤ z0 ∧ z0 ≤ 9223372036854775807) (h1 : -9223372036854775808 ≤ z1 ∧ z1 ≤ 9223372036854775807) (h2 : -9223372036854775808 ≤ z2 ∧ z2 ≤ 9223372036854775807) : ∃ kl, keyOf Try.prog 95 (.agg #[.int .i64 z0, .int .i64 z1, .int .i64 z2]) = some kl := by
  have hk : Try.prog.keyType 95 = true := by kernel_rfl
  have hf : (Value.agg #[.int .i64 z0, .int .i64 z1, .int .i64 z2]).formed Try.prog 95 = true := by
    have u0 := Try.underlying95
    have c0 := Try.cellsSealsx
    generalize Try.prog = P at *
    simp [Value.formed, u0, c0]
  obtain ⟨m, hm⟩ : ∃ m, Try.prog.types.size = m + 1 := ⟨Try.prog.types.size - 1, by have : 0 < Try.prog.types.size := of_decide_eq_true (by kernel_rfl); omega⟩
  have c3 : Try.prog.cellsOf 3 = 1 := by kernel_rfl
  refine ⟨.string (keyBytes [.int .i64 z0, .int .i64 z1, .int .i64 z2]), ?_⟩
  have w0 := wf_i64' h0
  have w1 := wf_i64' h1
  have w2 := wf_i64' h2
  have u0 := Try.underlying95
  have u3 := Try.underlying3
  have c0 := Try.cellsSealsx
  generalize Try.prog = P at *
  simp only [keyOf, u0, hk, hf, hm, Bool.and_self, if_true]
  simp [Program.keyLits, u0, u3, c0, c3, Value.cells, w0, w1, w2]
set_option maxRecDepth 100000 in
theorem equal_Seals (w : World) (z0 z1 z2 : Int) (h0 : -9223372036854775808 ≤ z0 ∧ z0 ≤ 9223372036854775807) (h1 : -9223372036854775808 ≤ z1 ∧ z1 ≤ 9223372036854775807) (h2 : -9223372036854775808 ≤ z2 ∧ z2 ≤ 9223372036854775807) : (Op.equal 95 (.agg #[.int .i64 z0, .int .i64 z1, .int .i64 z2]) (.agg #[.int .i64 z0, .int .i64 z1, .int .i64 z2])).run Try.prog w = .ok true w := by
  obtain ⟨x, hx⟩ := keyOf_Seals z0 z1 z2 h0 h1 h2
  obtain ⟨r, hr, hiff⟩ := run_equal_deep w (m := 3) (by omega) (by kernel_rfl) Try.wideSealsx hx hx
  rw [hr, hiff.2 rfl]
set_option maxRecDepth 100000 in
set_option maxHeartbeats 4000000 in
theorem sameSeals_any (va vb : Value) (l : List (List Int)) (w : World) (ha : RI 3 w va l) (hb : RI 3 w vb l) :
    Calls Try.prog 63 #[va, vb] w fun e w' => e = .returned (.bool true) ∧ Below w.heap.size w w' := by
  obtain ⟨a, ca, rfl⟩ := ha.slice
  obtain ⟨b, cb, rfl⟩ := hb.slice
  have hlA := ha.len
  have hok := ha.fit
  obtain ⟨N, hN⟩ : ∃ N, N = l.length := ⟨_, rfl⟩
  rw [← hN] at ha hb hlA ⊢
  have hNb : (N : Int) ≤ 140737488355328 := by omega
  have HH := hide (And.intro ha (And.intro hb (And.intro hok hN)))
  clear ha hb hok hN hlA
  go_enter Try.func63, Try.ntmps63
  go_wp2_with fail
  go_loopw [13] (fun iv wr => ∃ i : Nat, iv = .int .i64 i ∧ i ≤ N ∧ Hid (Below w.heap.size w wr)) (fun iv _ => (N - (intOf iv)).toNat)
  case atStart => exact ⟨0, rfl, by omega, Below.refl _ _⟩
  case round =>
    obtain ⟨i, rfl, hi, hbel⟩ := hrel
    by_cases hin : i < N
    · obtain ⟨ha, hb, hok, hN⟩ := unhide HH
      obtain ⟨z, hz⟩ : ∃ z, l[i]? = some z := ⟨_, List.getElem?_eq_getElem (by omega)⟩
      obtain ⟨g, o, rfl, hc1⟩ := (ha.bw (unhide hbel)).get hz
      obtain ⟨g', o', rfl, hc2⟩ := (hb.bw (unhide hbel)).get hz
      obtain ⟨hz1, hz2⟩ := hok z (List.mem_of_getElem? hz)
      obtain ⟨z0, z1, z2, rfl⟩ : ∃ z0 z1 z2, z = [z0, z1, z2] := by
        match z, hz1 with
        | [z0, z1, z2], _ => exact ⟨z0, z1, z2, rfl⟩
      have he : ∀ W, (Op.equal 95 (.agg #[.int .i64 z0, .int .i64 z1, .int .i64 z2]) (.agg #[.int .i64 z0, .int .i64 z1, .int .i64 z2])).run Try.prog W = .ok true W := fun W => equal_Seals W z0 z1 z2 (hz2 z0 (by simp)) (hz2 z1 (by simp)) (hz2 z2 (by simp))
      have c0 := hc1 0 _ rfl
      have d0 := hc2 0 _ rfl
      have c1 := hc1 1 _ rfl
      have d1 := hc2 1 _ rfl
      have c2 := hc1 2 _ rfl
      have d2 := hc2 2 _ rfl
      simp only [Nat.add_zero] at c0 d0
      have hi1 : (i : Int) < (N : Int) := by omega
      clear ha hb hok hN hz HH hc1 hc2 hz1 hz2
      go_wp2_with fail
      go_quiet (fail)
      go_wp2_with fail
      go_roundw
      case rel => exact ⟨i + 1, by go_num, by omega, below_drewN (unhide hbel) _⟩
      case measure => simp [intOf]; omega
    · have hie : i = N := by omega
      subst hie
      clear HH
      go_wp2_with fail
      go_ret
      exact ⟨rfl, unhide hbel⟩
theorem Try.cellsJoinsx : Try.prog.cellsOf 98 = 2 := by kernel_rfl
theorem Try.wideJoinsx : (match Try.prog.underlying 98 with | some (.array _ _) | some (.struct _) => true | _ => false) = true := by kernel_rfl
theorem keyOf_Joins (z0 z1 : Int) (h0 : -9223372036854775808 ≤ z0 ∧ z0 ≤ 9223372036854775807) (h1 : -9223372036854775808 ≤ z1 ∧ z1 ≤ 9223372036854775807) : ∃ kl, keyOf Try.prog 98 (.agg #[.int .i64 z0, .int .i64 z1]) = some kl := by
  have hk : Try.prog.keyType 98 = true := by kernel_rfl
  have hf : (Value.agg #[.int .i64 z0, .int .i64 z1]).formed Try.prog 98 = true := by
    have u0 := Try.underlying98
    have c0 := Try.cellsJoinsx
    generalize Try.prog = P at *
    simp [Value.formed, u0, c0]
  obtain ⟨m, hm⟩ : ∃ m, Try.prog.types.size = m + 1 := ⟨Try.prog.types.size - 1, by have : 0 < Try.prog.types.size := of_decide_eq_true (by kernel_rfl); omega⟩
  have c3 : Try.prog.cellsOf 3 = 1 := by kernel_rfl
  refine ⟨.string (keyBytes [.int .i64 z0, .int .i64 z1]), ?_⟩
  have w0 := wf_i64' h0
  have w1 := wf_i64' h1
  have u0 := Try.underlying98
  have u3 := Try.underlying3
  have c0 := Try.cellsJoinsx
  generalize Try.prog = P at *
  simp only [keyOf, u0, hk, hf, hm, Bool.and_self, if_true]
  simp [Program.keyLits, u0, u3, c0, c3, Value.cells, w0, w1]
set_option maxRecDepth 100000 in
theorem equal_Joins (w : World) (z0 z1 : Int) (h0 : -9223372036854775808 ≤ z0 ∧ z0 ≤ 9223372036854775807) (h1 : -9223372036854775808 ≤ z1 ∧ z1 ≤ 9223372036854775807) : (Op.equal 98 (.agg #[.int .i64 z0, .int .i64 z1]) (.agg #[.int .i64 z0, .int .i64 z1])).run Try.prog w = .ok true w := by
  obtain ⟨x, hx⟩ := keyOf_Joins z0 z1 h0 h1
  obtain ⟨r, hr, hiff⟩ := run_equal_deep w (m := 3) (by omega) (by kernel_rfl) Try.wideJoinsx hx hx
  rw [hr, hiff.2 rfl]
set_option maxRecDepth 100000 in
set_option maxHeartbeats 4000000 in
theorem sameJoins_any (va vb : Value) (l : List (List Int)) (w : World) (ha : RI 2 w va l) (hb : RI 2 w vb l) :
    Calls Try.prog 64 #[va, vb] w fun e w' => e = .returned (.bool true) ∧ Below w.heap.size w w' := by
  obtain ⟨a, ca, rfl⟩ := ha.slice
  obtain ⟨b, cb, rfl⟩ := hb.slice
  have hlA := ha.len
  have hok := ha.fit
  obtain ⟨N, hN⟩ : ∃ N, N = l.length := ⟨_, rfl⟩
  rw [← hN] at ha hb hlA ⊢
  have hNb : (N : Int) ≤ 140737488355328 := by omega
  have HH := hide (And.intro ha (And.intro hb (And.intro hok hN)))
  clear ha hb hok hN hlA
  go_enter Try.func64, Try.ntmps64
  go_wp2_with fail
  go_loopw [13] (fun iv wr => ∃ i : Nat, iv = .int .i64 i ∧ i ≤ N ∧ Hid (Below w.heap.size w wr)) (fun iv _ => (N - (intOf iv)).toNat)
  case atStart => exact ⟨0, rfl, by omega, Below.refl _ _⟩
  case round =>
    obtain ⟨i, rfl, hi, hbel⟩ := hrel
    by_cases hin : i < N
    · obtain ⟨ha, hb, hok, hN⟩ := unhide HH
      obtain ⟨z, hz⟩ : ∃ z, l[i]? = some z := ⟨_, List.getElem?_eq_getElem (by omega)⟩
      obtain ⟨g, o, rfl, hc1⟩ := (ha.bw (unhide hbel)).get hz
      obtain ⟨g', o', rfl, hc2⟩ := (hb.bw (unhide hbel)).get hz
      obtain ⟨hz1, hz2⟩ := hok z (List.mem_of_getElem? hz)
      obtain ⟨z0, z1, rfl⟩ : ∃ z0 z1, z = [z0, z1] := by
        match z, hz1 with
        | [z0, z1], _ => exact ⟨z0, z1, rfl⟩
      have he : ∀ W, (Op.equal 98 (.agg #[.int .i64 z0, .int .i64 z1]) (.agg #[.int .i64 z0, .int .i64 z1])).run Try.prog W = .ok true W := fun W => equal_Joins W z0 z1 (hz2 z0 (by simp)) (hz2 z1 (by simp))
      have c0 := hc1 0 _ rfl
      have d0 := hc2 0 _ rfl
      have c1 := hc1 1 _ rfl
      have d1 := hc2 1 _ rfl
      simp only [Nat.add_zero] at c0 d0
      have hi1 : (i : Int) < (N : Int) := by omega
      clear ha hb hok hN hz HH hc1 hc2 hz1 hz2
      go_wp2_with fail
      go_quiet (fail)
      go_wp2_with fail
      go_roundw
      case rel => exact ⟨i + 1, by go_num, by omega, below_drewN (unhide hbel) _⟩
      case measure => simp [intOf]; omega
    · have hie : i = N := by omega
      subst hie
      clear HH
      go_wp2_with fail
      go_ret
      exact ⟨rfl, unhide hbel⟩
end Go.Proofs.Ytnimdnoemmodaaa

/- Contracts of the document's blank, leaf, leaves and some. -/
namespace Go.Proofs.Ytnimdnoemmodaaa
open Go.RowKit Go.Maps
end Go.Proofs.Ytnimdnoemmodaaa

/- The contract of the document's twice. -/
namespace Go.Proofs.Ytnimdnoemmodaaa
open Go.RowKit Go.Maps
end Go.Proofs.Ytnimdnoemmodaaa
