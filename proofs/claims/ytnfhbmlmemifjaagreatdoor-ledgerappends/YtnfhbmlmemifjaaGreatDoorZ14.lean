/- Texts joined: LgD LgPure TsA TsB TsC. -/
import Derived.Test.YtnfhbmlmemifjaaGreatDoorZ04
import Derived.Test.YtnfhbmlmemifjaaGreatDoorZ02
/- SameAdds, SameSeals, SameJoins of equal rows. -/
namespace Go.Proofs.YtnfhbmlmemifjaaGreatDoor
open Go.RowKit Go.Maps
theorem wf_i64' {x : Int} (h : -9223372036854775808 ≤ x ∧ x ≤ 9223372036854775807) : (Lit.int .i64 x).wf = true := by
  simpa [Lit.wf, IntKind.min, IntKind.max, IntKind.signed, IntKind.bits] using h
theorem Tryz.cellsAddsx : Tryz.prog.cellsOf 131 = 3 := by kernel_rfl
theorem Tryz.wideAddsx : (match Tryz.prog.underlying 131 with | some (.array _ _) | some (.struct _) => true | _ => false) = true := by kernel_rfl
theorem keyOf_Adds (z0 z1 z2 : Int) (h0 : -9223372036854775808 ≤ z0 ∧ z0 ≤ 9223372036854775807) (h1 : -9223372036854775808 ≤ z1 ∧ z1 ≤ 9223372036854775807) (h2 : -9223372036854775808 ≤ z2 ∧ z2 ≤ 9223372036854775807) : ∃ kl, keyOf Tryz.prog 131 (.agg #[.int .i64 z0, .int .i64 z1, .int .i64 z2]) = some kl := by
  have hk : Tryz.prog.keyType 131 = true := by kernel_rfl
  have hf : (Value.agg #[.int .i64 z0, .int .i64 z1, .int .i64 z2]).formed Tryz.prog 131 = true := by
    have u0 := Tryz.underlying131
    have c0 := Tryz.cellsAddsx
    generalize Tryz.prog = P at *
    simp [Value.formed, u0, c0]
  obtain ⟨m, hm⟩ : ∃ m, Tryz.prog.types.size = m + 1 := ⟨Tryz.prog.types.size - 1, by have : 0 < Tryz.prog.types.size := of_decide_eq_true (by kernel_rfl); omega⟩
  have c3 : Tryz.prog.cellsOf 3 = 1 := by kernel_rfl
  refine ⟨.string (keyBytes [.int .i64 z0, .int .i64 z1, .int .i64 z2]), ?_⟩
  have w0 := wf_i64' h0
  have w1 := wf_i64' h1
  have w2 := wf_i64' h2
  have u0 := Tryz.underlying131
  have u3 := Tryz.underlying3
  have c0 := Tryz.cellsAddsx
  generalize Tryz.prog = P at *
  simp only [keyOf, u0, hk, hf, hm, Bool.and_self, if_true]
  simp [Program.keyLits, u0, u3, c0, c3, Value.cells, w0, w1, w2]
set_option maxRecDepth 100000 in
theorem equal_Adds (w : World) (z0 z1 z2 : Int) (h0 : -9223372036854775808 ≤ z0 ∧ z0 ≤ 9223372036854775807) (h1 : -9223372036854775808 ≤ z1 ∧ z1 ≤ 9223372036854775807) (h2 : -9223372036854775808 ≤ z2 ∧ z2 ≤ 9223372036854775807) : (Op.equal 131 (.agg #[.int .i64 z0, .int .i64 z1, .int .i64 z2]) (.agg #[.int .i64 z0, .int .i64 z1, .int .i64 z2])).run Tryz.prog w = .ok true w := by
  obtain ⟨x, hx⟩ := keyOf_Adds z0 z1 z2 h0 h1 h2
  obtain ⟨r, hr, hiff⟩ := run_equal_deep w (m := 3) (by omega) (by kernel_rfl) Tryz.wideAddsx hx hx
  rw [hr, hiff.2 rfl]
set_option maxRecDepth 100000 in
set_option maxHeartbeats 4000000 in
theorem sameAdds_any (va vb : Value) (l : List (List Int)) (w : World) (ha : RI 3 w va l) (hb : RI 3 w vb l) :
    Calls Tryz.prog 46 #[va, vb] w fun e w' => e = .returned (.bool true) ∧ Below w.heap.size w w' := by
  obtain ⟨a, ca, rfl⟩ := ha.slice
  obtain ⟨b, cb, rfl⟩ := hb.slice
  have hlA := ha.len
  have hok := ha.fit
  obtain ⟨N, hN⟩ : ∃ N, N = l.length := ⟨_, rfl⟩
  rw [← hN] at ha hb hlA ⊢
  have hNb : (N : Int) ≤ 140737488355328 := by omega
  have HH := hide (And.intro ha (And.intro hb (And.intro hok hN)))
  clear ha hb hok hN hlA
  go_enter Tryz.func46, Tryz.ntmps46
  go_wp2_with fail
  go_loopw [13] (fun iv wr => ∃ i : Nat, iv = .int .i64 i ∧ i ≤ N ∧ Hid (Below w.heap.size w wr)) (fun iv _ => (N - (intOf iv)).toNat)
  case atStart => exact ⟨0, rfl, by omega, Below.refl _ _⟩
  case round =>
    obtain ⟨i, rfl, hi, hbel⟩ := hrel
    by_cases hin : i < N
    · obtain ⟨ha, hb, hok, hN⟩ := unhide HH
      obtain ⟨z, hz⟩ : ∃ z, l[i]? = some z := ⟨_, List.getElem?_eq_getElem (by omega)⟩
      obtain ⟨g, o, rfl, hc1⟩ := (ha.bw (unhide hbel)).get hz
      obtain ⟨g', o', rfl, hc2⟩ := (hb.bw (unhide hbel)).get hz
      obtain ⟨hz1, hz2⟩ := hok z (List.mem_of_getElem? hz)
      obtain ⟨z0, z1, z2, rfl⟩ : ∃ z0 z1 z2, z = [z0, z1, z2] := by
        match z, hz1 with
        | [z0, z1, z2], _ => exact ⟨z0, z1, z2, rfl⟩
      have he : ∀ W, (Op.equal 131 (.agg #[.int .i64 z0, .int .i64 z1, .int .i64 z2]) (.agg #[.int .i64 z0, .int .i64 z1, .int .i64 z2])).run Tryz.prog W = .ok true W := fun W => equal_Adds W z0 z1 z2 (hz2 z0 (by simp)) (hz2 z1 (by simp)) (hz2 z2 (by simp))
      have c0 := hc1 0 _ rfl
      have d0 := hc2 0 _ rfl
      have c1 := hc1 1 _ rfl
      have d1 := hc2 1 _ rfl
      have c2 := hc1 2 _ rfl
      have d2 := hc2 2 _ rfl
      simp only [Nat.add_zero] at c0 d0
      have hi1 : (i : Int) < (N : Int) := by omega
      clear ha hb hok hN hz HH hc1 hc2 hz1 hz2
      go_wp2_with fail
      go_quiet (fail)
      go_wp2_with fail
      go_roundw
      case rel => exact ⟨i + 1, by go_num, by omega, below_drewN (unhide hbel) _⟩
      case measure => simp [intOf]; omega
    · have hie : i = N := by omega
      subst hie
      clear HH
      go_wp2_with fail
      go_ret
      exact ⟨rfl, unhide hbel⟩
theorem Tryz.cellsSealsx : Tryz.prog.cellsOf 133 = 3 := by kernel_rfl
theorem Tryz.wideSealsx : (match Tryz.prog.underlying 133 with | some (.array _ _) | some (.struct _) => true | _ => false) = true := by kernel_rfl
theorem keyOf_Seals (z0 z1 z2 : Int) (h0 : -9223372036854775808 ≤ z0 ∧ z0 ≤ 9223372036854775807) (h1 : -9223372036854775808 ≤ z1 ∧ z1 ≤ 9223372036854775807) (h2 : -9223372036854775808 ≤ z2 ∧ z2 ≤ 9223372036854775807) : ∃ kl, keyOf Tryz.prog 133 (.agg #[.int .i64 z0, .int .i64 z1, .int .i64 z2]) = some kl := by
  have hk : Tryz.prog.keyType 133 = true := by kernel_rfl
  have hf : (Value.agg #[.int .i64 z0, .int .i64 z1, .int .i64 z2]).formed Tryz.prog 133 = true := by
    have u0 := Tryz.underlying133
    have c0 := Tryz.cellsSealsx
    generalize Tryz.prog = P at *
    simp [Value.formed, u0, c0]
  obtain ⟨m, hm⟩ : ∃ m, Tryz.prog.types.size = m + 1 := ⟨Tryz.prog.types.size - 1, by have : 0 < Tryz.prog.types.size := of_decide_eq_true (by kernel_rfl); omega⟩
  have c3 : Tryz.prog.cellsOf 3 = 1 := by kernel_rfl
  refine ⟨.string (keyBytes [.int .i64 z0, .int .i64 z1, .int .i64 z2]), ?_⟩
  have w0 := wf_i64' h0
  have w1 := wf_i64' h1
  have w2 := wf_i64' h2
  have u0 := Tryz.underlying133
  have u3 := Tryz.underlying3
  have c0 := Tryz.cellsSealsx
  generalize Tryz.prog = P at *
  simp only [keyOf, u0, hk, hf, hm, Bool.and_self, if_true]
  simp [Program.keyLits, u0, u3, c0, c3, Value.cells, w0, w1, w2]
set_option maxRecDepth 100000 in
theorem equal_Seals (w : World) (z0 z1 z2 : Int) (h0 : -9223372036854775808 ≤ z0 ∧ z0 ≤ 9223372036854775807) (h1 : -9223372036854775808 ≤ z1 ∧ z1 ≤ 9223372036854775807) (h2 : -9223372036854775808 ≤ z2 ∧ z2 ≤ 9223372036854775807) : (Op.equal 133 (.agg #[.int .i64 z0, .int .i64 z1, .int .i64 z2]) (.agg #[.int .i64 z0, .int .i64 z1, .int .i64 z2])).run Tryz.prog w = .ok true w := by
  obtain ⟨x, hx⟩ := keyOf_Seals z0 z1 z2 h0 h1 h2
  obtain ⟨r, hr, hiff⟩ := run_equal_deep w (m := 3) (by omega) (by kernel_rfl) Tryz.wideSealsx hx hx
  rw [hr, hiff.2 rfl]
set_option maxRecDepth 100000 in
set_option maxHeartbeats 4000000 in
theorem sameSeals_any (va vb : Value) (l : List (List Int)) (w : World) (ha : RI 3 w va l) (hb : RI 3 w vb l) :
    Calls Tryz.prog 47 #[va, vb] w fun e w' => e = .returned (.bool true) ∧ Below w.heap.size w w' := by
  obtain ⟨a, ca, rfl⟩ := ha.slice
  obtain ⟨b, cb, rfl⟩ := hb.slice
  have hlA := ha.len
  have hok := ha.fit
  obtain ⟨N, hN⟩ : ∃ N, N = l.length := ⟨_, rfl⟩
  rw [← hN] at ha hb hlA ⊢
  have hNb : (N : Int) ≤ 140737488355328 := by omega
  have HH := hide (And.intro ha (And.intro hb (And.intro hok hN)))
  clear ha hb hok hN hlA
  go_enter Tryz.func47, Tryz.ntmps47
  go_wp2_with fail
  go_loopw [13] (fun iv wr => ∃ i : Nat, iv = .int .i64 i ∧ i ≤ N ∧ Hid (Below w.heap.size w wr)) (fun iv _ => (N - (intOf iv)).toNat)
  case atStart => exact ⟨0, rfl, by omega, Below.refl _ _⟩
  case round =>
    obtain ⟨i, rfl, hi, hbel⟩ := hrel
    by_cases hin : i < N
    · obtain ⟨ha, hb, hok, hN⟩ := unhide HH
      obtain ⟨z, hz⟩ : ∃ z, l[i]? = some z := ⟨_, List.getElem?_eq_getElem (by omega)⟩
      obtain ⟨g, o, rfl, hc1⟩ := (ha.bw (unhide hbel)).get hz
      obtain ⟨g', o', rfl, hc2⟩ := (hb.bw (unhide hbel)).get hz
      obtain ⟨hz1, hz2⟩ := hok z (List.mem_of_getElem? hz)
      obtain ⟨z0, z1, z2, rfl⟩ : ∃ z0 z1 z2, z = [z0, z1, z2] := by
        match z, hz1 with
        | [z0, z1, z2], _ => exact ⟨z0, z1, z2, rfl⟩
      have he : ∀ W, (Op.equal 133 (.agg #[.int .i64 z0, .int .i64 z1, .int .i64 z2]) (.agg #[.int .i64 z0, .int .i64 z1, .int .i64 z2])).run Tryz.prog W = .ok true W := fun W => equal_Seals W z0 z1 z2 (hz2 z0 (by simp)) (hz2 z1 (by simp)) (hz2 z2 (by simp))
      have c0 := hc1 0 _ rfl
      have d0 := hc2 0 _ rfl
      have c1 := hc1 1 _ rfl
      have d1 := hc2 1 _ rfl
      have c2 := hc1 2 _ rfl
      have d2 := hc2 2 _ rfl
      simp only [Nat.add_zero] at c0 d0
      have hi1 : (i : Int) < (N : Int) := by omega
      clear ha hb hok hN hz HH hc1 hc2 hz1 hz2
      go_wp2_with fail
      go_quiet (fail)
      go_wp2_with fail
      go_roundw
      case rel => exact ⟨i + 1, by go_num, by omega, below_drewN (unhide hbel) _⟩
      case measure => simp [intOf]; omega
    · have hie : i = N := by omega
      subst hie
      clear HH
      go_wp2_with fail
      go_ret
      exact ⟨rfl, unhide hbel⟩
theorem Tryz.cellsJoinsx : Tryz.prog.cellsOf 135 = 2 := by kernel_rfl
theorem Tryz.wideJoinsx : (match Tryz.prog.underlying 135 with | some (.array _ _) | some (.struct _) => true | _ => false) = true := by kernel_rfl
theorem keyOf_Joins (z0 z1 : Int) (h0 : -9223372036854775808 ≤ z0 ∧ z0 ≤ 9223372036854775807) (h1 : -9223372036854775808 ≤ z1 ∧ z1 ≤ 9223372036854775807) : ∃ kl, keyOf Tryz.prog 135 (.agg #[.int .i64 z0, .int .i64 z1]) = some kl := by
  have hk : Tryz.prog.keyType 135 = true := by kernel_rfl
  have hf : (Value.agg #[.int .i64 z0, .int .i64 z1]).formed Tryz.prog 135 = true := by
    have u0 := Tryz.underlying135
    have c0 := Tryz.cellsJoinsx
    generalize Tryz.prog = P at *
    simp [Value.formed, u0, c0]
  obtain ⟨m, hm⟩ : ∃ m, Tryz.prog.types.size = m + 1 := ⟨Tryz.prog.types.size - 1, by have : 0 < Tryz.prog.types.size := of_decide_eq_true (by kernel_rfl); omega⟩
  have c3 : Tryz.prog.cellsOf 3 = 1 := by kernel_rfl
  refine ⟨.string (keyBytes [.int .i64 z0, .int .i64 z1]), ?_⟩
  have w0 := wf_i64' h0
  have w1 := wf_i64' h1
  have u0 := Tryz.underlying135
  have u3 := Tryz.underlying3
  have c0 := Tryz.cellsJoinsx
  generalize Tryz.prog = P at *
  simp only [keyOf, u0, hk, hf, hm, Bool.and_self, if_true]
  simp [Program.keyLits, u0, u3, c0, c3, Value.cells, w0, w1]
set_option maxRecDepth 100000 in
theorem equal_Joins (w : World) (z0 z1 : Int) (h0 : -9223372036854775808 ≤ z0 ∧ z0 ≤ 9223372036854775807) (h1 : -9223372036854775808 ≤ z1 ∧ z1 ≤ 9223372036854775807) : (Op.equal 135 (.agg #[.int .i64 z0, .int .i64 z1]) (.agg #[.int .i64 z0, .int .i64 z1])).run Tryz.prog w = .ok true w := by
  obtain ⟨x, hx⟩ := keyOf_Joins z0 z1 h0 h1
  obtain ⟨r, hr, hiff⟩ := run_equal_deep w (m := 3) (by omega) (by kernel_rfl) Tryz.wideJoinsx hx hx
  rw [hr, hiff.2 rfl]
set_option maxRecDepth 100000 in
set_option maxHeartbeats 4000000 in
theorem sameJoins_any (va vb : Value) (l : List (List Int)) (w : World) (ha : RI 2 w va l) (hb : RI 2 w vb l) :
    Calls Tryz.prog 48 #[va, vb] w fun e w' => e = .returned (.bool true) ∧ Below w.heap.size w w' := by
  obtain ⟨a, ca, rfl⟩ := ha.slice
  obtain ⟨b, cb, rfl⟩ := hb.slice
  have hlA := ha.len
  have hok := ha.fit
  obtain ⟨N, hN⟩ : ∃ N, N = l.length := ⟨_, rfl⟩
  rw [← hN] at ha hb hlA ⊢
  have hNb : (N : Int) ≤ 140737488355328 := by omega
  have HH := hide (And.intro ha (And.intro hb (And.intro hok hN)))
  clear ha hb hok hN hlA
  go_enter Tryz.func48, Tryz.ntmps48
  go_wp2_with fail
  go_loopw [13] (fun iv wr => ∃ i : Nat, iv = .int .i64 i ∧ i ≤ N ∧ Hid (Below w.heap.size w wr)) (fun iv _ => (N - (intOf iv)).toNat)
  case atStart => exact ⟨0, rfl, by omega, Below.refl _ _⟩
  case round =>
    obtain ⟨i, rfl, hi, hbel⟩ := hrel
    by_cases hin : i < N
    · obtain ⟨ha, hb, hok, hN⟩ := unhide HH
      obtain ⟨z, hz⟩ : ∃ z, l[i]? = some z := ⟨_, List.getElem?_eq_getElem (by omega)⟩
      obtain ⟨g, o, rfl, hc1⟩ := (ha.bw (unhide hbel)).get hz
      obtain ⟨g', o', rfl, hc2⟩ := (hb.bw (unhide hbel)).get hz
      obtain ⟨hz1, hz2⟩ := hok z (List.mem_of_getElem? hz)
      obtain ⟨z0, z1, rfl⟩ : ∃ z0 z1, z = [z0, z1] := by
        match z, hz1 with
        | [z0, z1], _ => exact ⟨z0, z1, rfl⟩
      have he : ∀ W, (Op.equal 135 (.agg #[.int .i64 z0, .int .i64 z1]) (.agg #[.int .i64 z0, .int .i64 z1])).run Tryz.prog W = .ok true W := fun W => equal_Joins W z0 z1 (hz2 z0 (by simp)) (hz2 z1 (by simp))
      have c0 := hc1 0 _ rfl
      have d0 := hc2 0 _ rfl
      have c1 := hc1 1 _ rfl
      have d1 := hc2 1 _ rfl
      simp only [Nat.add_zero] at c0 d0
      have hi1 : (i : Int) < (N : Int) := by omega
      clear ha hb hok hN hz HH hc1 hc2 hz1 hz2
      go_wp2_with fail
      go_quiet (fail)
      go_wp2_with fail
      go_roundw
      case rel => exact ⟨i + 1, by go_num, by omega, below_drewN (unhide hbel) _⟩
      case measure => simp [intOf]; omega
    · have hie : i = N := by omega
      subst hie
      clear HH
      go_wp2_with fail
      go_ret
      exact ⟨rfl, unhide hbel⟩
end Go.Proofs.YtnfhbmlmemifjaaGreatDoor

/- Logs, plainly: what may be, how many, which, what is taken; what follows. No program is in this text. -/
namespace Go.Proofs.YtnfhbmlmemifjaaGreatDoor
abbrev Lg : Type := Int × List Cm
def mayC (c : Cm) : Bool := decide (0 ≤ c.ep) && mayB c.next && decide (c.next.length ≠ 0)
def comB (g : Int) : Nat → List Cm → Bool
  | _, [] => true
  | k, c :: r => decide (c.gr = g) && decide (c.ep = (k : Int)) && mayC c && comB g (k + 1) r
def logB (p : Lg) : Bool := decide (p.2.length ≠ 0) && comB p.1 0 p.2
def risB : List Lg → Bool
  | [] => true
  | [_] => true
  | p :: q :: r => decide (p.1 < q.1) && risB (q :: r)
def chkB (l : List Lg) : Bool := decide (l.length ≤ 16) && risB l && l.all logB
def fndL (l : List Lg) (g : Int) : Option (List Cm) := (l.find? fun p => decide (p.1 = g)).map (·.2)
def lenL (l : List Lg) (g : Int) : Nat := if chkB l = true then ((fndL l g).getD []).length else 0
def insl : List Lg → Cm → List Lg
  | [], c => [(c.gr, [c])]
  | p :: r, c => if p.1 = c.gr then (p.1, p.2 ++ [c]) :: r else if c.gr < p.1 then (c.gr, [c]) :: p :: r else p :: insl r c
def appE (l : List Lg) (c : Cm) : Int :=
  if (chkB l && mayC c) = true then (if c.ep = (lenL l c.gr : Int) then (if fndL l c.gr = none ∧ 16 ≤ l.length then 3 else 0) else 10) else 1
def appL (l : List Lg) (c : Cm) : List Lg := if appE l c = 0 then insl l c else []
theorem appE_ok {l : List Lg} {c : Cm} (h : appE l c = 0) : chkB l = true ∧ mayC c = true ∧ c.ep = (lenL l c.gr : Int) ∧ (fndL l c.gr = none → l.length < 16) := by
  unfold appE at h
  split at h
  · next h1 =>
    simp only [Bool.and_eq_true] at h1
    split at h
    · next h2 =>
      split at h
      · cases h
      · next h3 => exact ⟨h1.1, h1.2, h2, fun c => by rcases Nat.lt_or_ge l.length 16 with q | q; exact q; exact absurd ⟨c, q⟩ h3⟩
    · cases h
  · cases h
theorem appE_of {l : List Lg} {c : Cm} (h1 : chkB l = true) (h2 : mayC c = true) (h3 : c.ep = (lenL l c.gr : Int)) (h4 : fndL l c.gr = none → l.length < 16) : appE l c = 0 := by
  unfold appE
  rw [if_pos (by simp [h1, h2]), if_pos h3, if_neg (fun ⟨a, b⟩ => by have := h4 a; omega)]
theorem chk_parts {l : List Lg} (h : chkB l = true) : l.length ≤ 16 ∧ risB l = true ∧ ∀ p ∈ l, logB p = true := by
  unfold chkB at h
  simp only [Bool.and_eq_true, decide_eq_true_eq, List.all_eq_true] at h
  exact ⟨h.1.1, h.1.2, h.2⟩
theorem ris_tail {p : Lg} {r : List Lg} (h : risB (p :: r) = true) : risB r = true := by
  cases r with
  | nil => rfl
  | cons q s => simp only [risB, Bool.and_eq_true] at h; exact h.2
theorem ris_lt {p : Lg} : ∀ {r : List Lg}, risB (p :: r) = true → ∀ q ∈ r, p.1 < q.1
  | [], _, q, hq => by cases hq
  | s :: r, h, q, hq => by
    simp only [risB, Bool.and_eq_true, decide_eq_true_eq] at h
    rcases List.mem_cons.1 hq with rfl | c
    · exact h.1
    · have := ris_lt (p := s) (r := r) h.2 q c
      omega
theorem fndL_mem {l : List Lg} {g : Int} {cs : List Cm} (h : fndL l g = some cs) : (g, cs) ∈ l := by
  unfold fndL at h
  cases hf : l.find? (fun p => decide (p.1 = g)) with
  | none => rw [hf] at h; cases h
  | some p =>
    rw [hf] at h
    simp at h
    have h1 := List.find?_some hf
    have h2 := List.mem_of_find?_eq_some hf
    simp at h1
    obtain ⟨a, b⟩ := p
    simp only at h1 h
    subst h1 h
    exact h2
theorem fndL_of {l : List Lg} (hr : risB l = true) {p : Lg} (hp : p ∈ l) : fndL l p.1 = some p.2 := by
  induction l with
  | nil => cases hp
  | cons q r ih =>
    unfold fndL
    rw [List.find?_cons]
    rcases List.mem_cons.1 hp with rfl | d
    · simp
    · have := ris_lt hr p d
      have e : decide (q.1 = p.1) = false := decide_eq_false (by omega)
      rw [e]
      exact ih (ris_tail hr) d
end Go.Proofs.YtnfhbmlmemifjaaGreatDoor

/- Contracts of the document's blank, leaf, leaves and some. -/
namespace Go.Proofs.YtnfhbmlmemifjaaGreatDoor
open Go.RowKit Go.Maps
def blkB (p m e : Int) (M : Nat) : Bool := p == 0 && m == 0 && e == 0 && ((M : Int) == 0)
def leafB (p m e : Int) (M : Nat) : Bool := blkB p m e M || (decide (0 < p) && decide (0 ≤ m) && decide (0 ≤ e) && ((M : Int) == 0))
theorem rblank_any (p m e : Int) (ua : Option Addr) (M uc : Nat) (w : World) (_hM : (M : Int) ≤ 140737488355328) :
    Calls Tryz.prog 313 #[.agg #[.int .i64 p, .int .i64 m, .int .i64 e, .slice ua M uc]] w fun x w' => x = .returned (.bool (blkB p m e M)) ∧ Below w.heap.size w w' := by
  obtain ⟨r, hr⟩ : ∃ r, r = blkB p m e M := ⟨_, rfl⟩
  rw [← hr]
  have HR := hide hr
  clear hr
  by_cases k0 : p = 0
  · subst k0
    by_cases k1 : m = 0
    · subst k1
      by_cases k2 : e = 0
      · subst k2
        obtain rfl : r = ((M : Int) == 0) := by rw [unhide HR]; simp [blkB]
        clear HR
        go_enter Tryz.func313, Tryz.ntmps313
        go_wp2
        go_ret
        exact ⟨rfl, bwA _ _⟩
      · have k2' : (e == 0) = false := by simp [k2]
        have k2'' : decide (e = 0) = false := by simp [k2]
        obtain rfl : r = false := by rw [unhide HR]; unfold blkB; rw [k2']; simp
        clear HR
        go_enter Tryz.func313, Tryz.ntmps313
        go_wp2
        go_ret
        exact ⟨rfl, bwA _ _⟩
    · have k2' : (m == 0) = false := by simp [k1]
      have k2'' : decide (m = 0) = false := by simp [k1]
      obtain rfl : r = false := by rw [unhide HR]; unfold blkB; rw [k2']; simp
      clear HR
      go_enter Tryz.func313, Tryz.ntmps313
      go_wp2
      go_ret
      exact ⟨rfl, bwA _ _⟩
  · have k2' : (p == 0) = false := by simp [k0]
    have k2'' : decide (p = 0) = false := by simp [k0]
    obtain rfl : r = false := by rw [unhide HR]; unfold blkB; rw [k2']; simp
    clear HR
    go_enter Tryz.func313, Tryz.ntmps313
    go_wp2
    go_ret
    exact ⟨rfl, bwA _ _⟩
set_option maxHeartbeats 1000000 in
theorem rleaf_any (p m e : Int) (ua : Option Addr) (M uc : Nat) (w : World) (hM : (M : Int) ≤ 140737488355328) :
    Calls Tryz.prog 290 #[.agg #[.int .i64 p, .int .i64 m, .int .i64 e, .slice ua M uc]] w fun x w' => x = .returned (.bool (leafB p m e M)) ∧ Below w.heap.size w w' := by
  have K := hide (rblank_any p m e ua M uc (w.alloc (.cells #[.int .i64 p, .int .i64 m, .int .i64 e, .slice ua M uc] 256)) hM)
  obtain ⟨r, hr⟩ : ∃ r, r = leafB p m e M := ⟨_, rfl⟩
  rw [← hr]
  have HR : Hid (r = (blkB p m e M || (decide (0 < p) && decide (0 ≤ m) && decide (0 ≤ e) && ((M : Int) == 0)))) := hr
  have HB : Hid (∀ w', Below (w.alloc (.cells #[.int .i64 p, .int .i64 m, .int .i64 e, .slice ua M uc] 256)).heap.size (w.alloc (.cells #[.int .i64 p, .int .i64 m, .int .i64 e, .slice ua M uc] 256)) w' → (w'.cell? ⟨w.heap.size, 0, none⟩ = some (.int .i64 p) ∧ w'.cell? ⟨w.heap.size, 1, none⟩ = some (.int .i64 m) ∧ w'.cell? ⟨w.heap.size, 2, none⟩ = some (.int .i64 e) ∧ w'.cell? ⟨w.heap.size, 3, none⟩ = some (.slice ua M uc)) ∧ Below w.heap.size w w') := fun w' hb => by
    have e1 : w'.heap[w.heap.size]? = some (.cells #[.int .i64 p, .int .i64 m, .int .i64 e, .slice ua M uc] 256 (0, 0)) := by rw [hb.block _ (by simp)]; exact heap_alloc_new _ _
    exact ⟨⟨by simp [World.cell?, e1], by simp [World.cell?, e1], by simp [World.cell?, e1], by simp [World.cell?, e1]⟩, bw_tr (bwA _ _) hb⟩
  clear hr
  generalize blkB p m e M = bb at *
  cases bb
  · by_cases k0 : 0 < p
    · by_cases k1 : 0 ≤ m
      · by_cases k2 : 0 ≤ e
        · obtain rfl : r = ((M : Int) == 0) := by rw [unhide HR, decide_eq_true k0, decide_eq_true k1, decide_eq_true k2]; simp
          clear HR
          go_enter Tryz.func290, Tryz.ntmps290
          go_wp2_with fail
          refine (unhide K).mono ?_
          rintro x w1 ⟨rfl, b1⟩
          obtain ⟨⟨c0, c1, c2, c3⟩, b2⟩ := unhide HB _ b1
          clear K HB b1
          go_wp2
          go_ret
          exact ⟨rfl, b2⟩
        · have k2' : decide (0 ≤ e) = false := by simp; omega
          obtain rfl : r = false := by rw [unhide HR, k2']; simp
          clear HR
          go_enter Tryz.func290, Tryz.ntmps290
          go_wp2_with fail
          refine (unhide K).mono ?_
          rintro x w1 ⟨rfl, b1⟩
          obtain ⟨⟨c0, c1, c2, c3⟩, b2⟩ := unhide HB _ b1
          clear K HB b1
          go_wp2
          go_ret
          exact ⟨rfl, b2⟩
      · have k2' : decide (0 ≤ m) = false := by simp; omega
        obtain rfl : r = false := by rw [unhide HR, k2']; simp
        clear HR
        go_enter Tryz.func290, Tryz.ntmps290
        go_wp2_with fail
        refine (unhide K).mono ?_
        rintro x w1 ⟨rfl, b1⟩
        obtain ⟨⟨c0, c1, c2, c3⟩, b2⟩ := unhide HB _ b1
        clear K HB b1
        go_wp2
        go_ret
        exact ⟨rfl, b2⟩
    · have k2' : decide (0 < p) = false := by simp; omega
      obtain rfl : r = false := by rw [unhide HR, k2']; simp
      clear HR
      go_enter Tryz.func290, Tryz.ntmps290
      go_wp2_with fail
      refine (unhide K).mono ?_
      rintro x w1 ⟨rfl, b1⟩
      obtain ⟨⟨c0, c1, c2, c3⟩, b2⟩ := unhide HB _ b1
      clear K HB b1
      go_wp2
      go_ret
      exact ⟨rfl, b2⟩
  · obtain rfl : r = true := by rw [unhide HR]; simp
    clear HR
    go_enter Tryz.func290, Tryz.ntmps290
    go_wp2_with fail
    refine (unhide K).mono ?_
    rintro x w1 ⟨rfl, b1⟩
    obtain ⟨⟨c0, c1, c2, c3⟩, b2⟩ := unhide HB _ b1
    clear K HB b1
    go_wp2
    go_ret
    exact ⟨rfl, b2⟩
def rlv (N : Nat) : Nat := if N = 1 then 1 else if N = 3 then 2 else if N = 7 then 4 else if N = 15 then 8 else 0
theorem rleaves_any (a : Option Addr) (N c : Nat) (w : World) (hN : N ≤ 140737488355328) :
    Calls Tryz.prog 289 #[.agg #[.slice a N c]] w fun e w' => e = .returned (.int .i64 (rlv N : Nat)) ∧ Below w.heap.size w w' := by
  obtain ⟨r, hr⟩ : ∃ r, r = rlv N := ⟨_, rfl⟩
  rw [← hr]
  have HR : Hid (r = if N = 1 then 1 else if N = 3 then 2 else if N = 7 then 4 else if N = 15 then 8 else 0) := hr
  have hb := hide (bwA w (.cells #[.slice a N c] 32))
  have hNI : (N : Int) ≤ 140737488355328 := by omega
  clear hr hN
  go_enter Tryz.func289, Tryz.ntmps289
  go_wp2_with fail
  go_loopw [3] (fun iv wr => ((iv = .int .i64 1) ∨ (iv = .int .i64 2 ∧ Hid (N ≠ 1)) ∨ (iv = .int .i64 4 ∧ Hid (N ≠ 1 ∧ N ≠ 3)) ∨ (iv = .int .i64 8 ∧ Hid (N ≠ 1 ∧ N ≠ 3 ∧ N ≠ 7)) ∨ (iv = .int .i64 16 ∧ Hid (N ≠ 1 ∧ N ≠ 3 ∧ N ≠ 7 ∧ N ≠ 15))) ∧ wr = w.alloc (.cells #[.slice a N c] 32)) (fun iv _ => (16 - (intOf iv)).toNat)
  case atStart => exact ⟨Or.inl rfl, rfl⟩
  case round =>
    obtain ⟨hr, rfl⟩ := hrel
    rcases hr with rfl | ⟨rfl, h1⟩ | ⟨rfl, h1⟩ | ⟨rfl, h1⟩ | ⟨rfl, h1⟩
    · by_cases k : N = 1
      · subst k
        obtain rfl : r = 1 := by rw [unhide HR]; rfl
        go_wp2_with fail
        go_ret
        exact ⟨rfl, unhide hb⟩
      · have k1 : ((N : Int) == 1) = false := by simp; omega
        have k2 : decide ((N : Int) = 1) = false := decide_eq_false (by omega)
        have h2 := hide k
        clear k
        go_wp2_with fail
        go_roundw
        case rel => exact ⟨Or.inr (Or.inl ⟨by go_num, h2⟩), by trivial⟩
        case measure => simp [intOf]
    · by_cases k : N = 3
      · subst k
        obtain rfl : r = 2 := by rw [unhide HR]; rfl
        go_wp2_with fail
        go_ret
        exact ⟨rfl, unhide hb⟩
      · have k1 : ((N : Int) == 3) = false := by simp; omega
        have k2 : decide ((N : Int) = 3) = false := decide_eq_false (by omega)
        have h2 := hide (And.intro (unhide h1) k)
        clear k
        go_wp2_with fail
        go_roundw
        case rel => exact ⟨Or.inr (Or.inr (Or.inl ⟨by go_num, h2⟩)), by trivial⟩
        case measure => simp [intOf]
    · by_cases k : N = 7
      · subst k
        obtain rfl : r = 4 := by rw [unhide HR]; rfl
        go_wp2_with fail
        go_ret
        exact ⟨rfl, unhide hb⟩
      · have k1 : ((N : Int) == 7) = false := by simp; omega
        have k2 : decide ((N : Int) = 7) = false := decide_eq_false (by omega)
        have h2 : Hid (N ≠ 1 ∧ N ≠ 3 ∧ N ≠ 7) := ⟨(unhide h1).1, (unhide h1).2, k⟩
        clear k
        go_wp2_with fail
        go_roundw
        case rel => exact ⟨Or.inr (Or.inr (Or.inr (Or.inl ⟨by go_num, h2⟩))), by trivial⟩
        case measure => simp [intOf]
    · by_cases k : N = 15
      · subst k
        obtain rfl : r = 8 := by rw [unhide HR]; rfl
        go_wp2_with fail
        go_ret
        exact ⟨rfl, unhide hb⟩
      · have k1 : ((N : Int) == 15) = false := by simp; omega
        have k2 : decide ((N : Int) = 15) = false := decide_eq_false (by omega)
        have h2 : Hid (N ≠ 1 ∧ N ≠ 3 ∧ N ≠ 7 ∧ N ≠ 15) := ⟨(unhide h1).1, (unhide h1).2.1, (unhide h1).2.2, k⟩
        clear k
        go_wp2_with fail
        go_roundw
        case rel => exact ⟨Or.inr (Or.inr (Or.inr (Or.inr ⟨by go_num, h2⟩))), by trivial⟩
        case measure => simp [intOf]
    · obtain rfl : r = 0 := by
        have h := unhide h1
        rw [unhide HR, if_neg h.1, if_neg h.2.1, if_neg h.2.2.1, if_neg h.2.2.2]
      go_wp2_with fail
      go_ret
      exact ⟨rfl, unhide hb⟩
theorem rlv_wd {T : List Nd} (h : rlv T.length ≠ 0) : rlv T.length = nlv T ∧ nlv T ∈ sizes ∧ T.length = 2 * nlv T - 1 := by
  unfold rlv at h ⊢
  unfold nlv sizes
  by_cases h1 : T.length = 1
  · simp [h1]
  · by_cases h3 : T.length = 3
    · simp [h3]
    · by_cases h7 : T.length = 7
      · simp [h7]
      · by_cases h15 : T.length = 15
        · simp [h15]
        · simp [h1, h3, h7, h15] at h
theorem rlv_of {n : Nat} (hn : n ∈ sizes) : rlv (2 * n - 1) = n := by
  simp [sizes] at hn
  rcases hn with rfl | rfl | rfl | rfl <;> rfl
set_option maxRecDepth 100000 in
set_option maxHeartbeats 1000000 in
theorem rsome_any {w : World} {v : Value} {T : List Nd} (h : Trd w v T) (hs : T.length ≤ 15) (f : Nat) (hf : f ≤ nlv T) :
    Calls Tryz.prog 293 #[.agg #[v], .int .i64 (f : Int)] w fun e w' => e = .returned (.bool (anyM T f (nlv T))) ∧ Below w.heap.size w w' := by
  obtain ⟨a, c, rfl⟩ := h.slice
  obtain ⟨-, h2⟩ := h.at
  obtain ⟨w0, hw0⟩ : ∃ w0, w0 = bxw w (.slice a T.length c) := ⟨_, rfl⟩
  have hb0 : Below w.heap.size w w0 := by rw [hw0]; exact bwA _ _
  have c0 : w0.cell? ⟨w.heap.size, 0, none⟩ = some (.slice a T.length c) := by rw [hw0]; exact bx_cell (Below.refl _ _)
  have HW : Hid (w0 = w.alloc (.cells #[.slice a T.length c] 32)) := hw0
  have HC : Hid (∀ x, x < T.length → ∃ b o, a = some ⟨b, o, none⟩ ∧ w0.cell? ⟨b, o + x * 4, none⟩ = some (.int .i64 (ndAt T x).pub)) := fun x hx => by
    obtain ⟨b, o, e, h3⟩ := h2 (by omega)
    exact ⟨b, o, e, by obtain ⟨u, k, _⟩ := h3 w0 hb0 x hx; exact k.c0⟩
  have HN : Hid (nlv T = (T.length + 1) / 2) := rfl
  have hs1 : (T.length : Int) ≤ 15 := by omega
  have hf8 : (f : Int) ≤ 8 := by unfold nlv at hf; omega
  have HF := hide hf
  clear h h2 hw0 hs hf
  generalize hnn : nlv T = n at *
  clear hnn
  generalize T.length = N at *
  go_enter Tryz.func293, Tryz.ntmps293
  go_upto_region 1 with fail
  rw [← unhide HW]
  go_wp2_with fail
  go_loopw [5] (fun iv wr => ∃ i x : Nat, iv = .int .i64 (x : Int) ∧ Hid (x = 2 * i ∧ f ≤ i ∧ i ≤ n) ∧ Hid (anyM T f i = false) ∧ wr = w0) (fun iv _ => (N + 2 - (intOf iv)).toNat)
  case atStart => exact ⟨f, 2 * f, by go_num, ⟨rfl, Nat.le_refl _, unhide HF⟩, anyM_self T f, rfl⟩
  case round =>
    obtain ⟨i, x, rfl, hx, hno, rfl⟩ := hrel
    obtain ⟨hx1, hx2, hx3⟩ := unhide hx
    have hn := unhide HN
    by_cases hin : x < N
    · have q1 : (x : Int) < (N : Int) := by omega
      have q0 : (0 : Int) ≤ (x : Int) := by omega
      obtain ⟨b, o, rfl, cp⟩ := unhide HC x hin
      have HP : Hid (anyM T f (i + 1) = pos (ndAt T x)) := by unfold Hid; rw [anyM_succ, unhide hno, decide_eq_true hx2, hx1]; simp
      have HI : Hid (i + 1 ≤ n) := by unfold Hid; omega
      have HX := hide hx1
      have HF2 := hide hx2
      clear hx hx1 hx2 hx3 hn hin
      by_cases kp : (ndAt T x).pub = 0
      · have hp : pos (ndAt T x) = false := by simp [pos, kp]
        rw [kp] at cp
        have hp2 := hide hp
        clear hp kp
        go_wp2_with fail
        go_roundw
        case rel => exact ⟨i + 1, x + 2, by go_num, ⟨by rw [unhide HX]; omega, Nat.le_succ_of_le (unhide HF2), unhide HI⟩, (unhide HP).trans (unhide hp2), by trivial⟩
        case measure => simp [intOf]; omega
      · have hp : Hid (pos (ndAt T x) = true) := by simp [Hid, pos, kp]
        generalize (ndAt T x).pub = p at *
        have k1 : (p != 0) = true := by simp [kp]
        have k2 : decide (p = 0) = false := by simp [kp]
        have k3 : (p == 0) = false := by simp [kp]
        clear kp
        go_wp2_with fail
        go_ret
        rw [anyM_mono ((unhide HP).trans (unhide hp)) (unhide HI)]
        exact ⟨rfl, hb0⟩
    · have q1 : decide ((x : Int) < (N : Int)) = false := decide_eq_false (by omega)
      have hie : Hid (i = n) := by unfold Hid; omega
      clear hx hx1 hx2 hx3 hn
      go_wp2_with fail
      go_ret
      rw [← unhide hie, unhide hno]
      exact ⟨rfl, hb0⟩
end Go.Proofs.YtnfhbmlmemifjaaGreatDoor

/- The contract of the document's parent. -/
namespace Go.Proofs.YtnfhbmlmemifjaaGreatDoor
open Go.RowKit Go.Maps
theorem ndM_odd (T : List Nd) (x : Nat) (hodd : x % 2 = 1) {p m e : Int} {l : List Int} (hp : (ndAt T x).pub = p) (hm : (ndAt T x).mem = m) (he : (ndAt T x).ep = e) (hl : (ndAt T x).un = l) :
    ndM T x = if blkB p m e l.length = true then true else if p ≤ 0 then false else m == 0 && e == 0 && unM T (spF (x : Nat)) (spT (x : Nat)) l := by
  rw [ndM_def T x hp hm he hl]
  have hemp : l.isEmpty = ((l.length : Int) == 0) := by cases l <;> simp <;> omega
  rw [hemp, if_neg (show ¬ x % 2 = 0 by omega)]
  unfold blkB
  by_cases k0 : p = 0
  · subst k0
    simp only [if_true, Int.le_refl, beq_self_eq_true, Bool.true_and]
    cases (m == 0 && e == 0 && ((l.length : Int) == 0)) <;> simp
  · have k1 : (p == 0) = false := by simp [k0]
    rw [if_neg k0, k1]
    simp only [Bool.false_and, Bool.false_eq_true, if_false]
    by_cases k2 : p < 0
    · rw [if_pos k2, if_pos (by omega)]
    · rw [if_neg k2, if_neg (by omega)]
set_option maxRecDepth 100000 in
set_option maxHeartbeats 4000000 in
theorem rpar8_any {w : World} {v : Value} {T : List Nd} (h : Trd w v T) (hw : Wd T) {x : Nat} (hx : x < T.length) (hodd : x % 2 = 1) :
    Calls Tryz.prog 291 #[.agg #[v], .int .i64 (x : Int)] w fun e w' => e = .returned (.bool (ndM T x)) ∧ Below w.heap.size w w' := by
  obtain ⟨g1, g2, g3, g4, g5⟩ := hw.facts
  obtain ⟨⟨s1, s2, s3, -⟩, -⟩ := span_of g1 (show x < 2 * nlv T - 1 by omega)
  obtain ⟨a, c, rfl⟩ := h.slice
  obtain ⟨-, h2⟩ := h.at
  obtain ⟨b, o, rfl, h3⟩ := h2 (by omega)
  obtain ⟨u, k1, k2⟩ := h3 _ (bwA w (.cells #[.slice (some ⟨b, o, none⟩) T.length c] 32)) x hx
  obtain ⟨au, cu, rfl⟩ := nums_slice k2
  obtain ⟨c0, c1, c2, c3⟩ := k1
  have hul := h.unl _ (ndAt_mem hx)
  obtain ⟨p, hp⟩ : ∃ p, (ndAt T x).pub = p := ⟨_, rfl⟩
  obtain ⟨m, hm⟩ : ∃ p, (ndAt T x).mem = p := ⟨_, rfl⟩
  obtain ⟨e, he⟩ : ∃ p, (ndAt T x).ep = p := ⟨_, rfl⟩
  obtain ⟨l, hl⟩ : ∃ p, (ndAt T x).un = p := ⟨_, rfl⟩
  have HD := hide (ndM_odd T x hodd hp hm he hl)
  rw [hp] at c0
  rw [hm] at c1
  rw [he] at c2
  rw [hl] at c3 hul k2
  obtain ⟨M, hM⟩ : ∃ M, M = l.length := ⟨_, rfl⟩
  obtain ⟨W, hWd⟩ : ∃ W, W = (w.alloc (.cells #[.slice (some ⟨b, o, none⟩) T.length c] 32)).alloc (.cells #[.int .i64 p, .int .i64 m, .int .i64 e, .slice au M cu] 256) := ⟨_, rfl⟩
  rw [← hM] at c3 hul HD
  have hM1 : (M : Int) ≤ 140737488355328 := by omega
  have hbW : Below w.heap.size w W := by rw [hWd]; exact (bwA _ _).alloc (by simp) _
  have KB := hide (rblank_any p m e au M cu W hM1)
  have KS : Hid (∀ W, Calls Tryz.prog 314 #[.int .i64 (x : Int)] W fun e w' => e = .returned (.tuple #[.int .i64 (spF x), .int .i64 (spT x)]) ∧ w' = W) := fun W => rspan_any (x : Int) W (by omega)
  have HB : Hid (∀ W', Below W.heap.size W W' → (W'.cell? ⟨w.heap.size, 0, none⟩ = some (.slice (some ⟨b, o, none⟩) T.length c) ∧ W'.cell? ⟨w.heap.size + 1, 0, none⟩ = some (.int .i64 p) ∧ W'.cell? ⟨w.heap.size + 1, 1, none⟩ = some (.int .i64 m) ∧ W'.cell? ⟨w.heap.size + 1, 2, none⟩ = some (.int .i64 e) ∧ W'.cell? ⟨w.heap.size + 1, 3, none⟩ = some (.slice au M cu)) ∧ Below w.heap.size w W') := fun W' hb => by
    have e0 : W'.heap[w.heap.size]? = some (.cells #[.slice (some ⟨b, o, none⟩) T.length c] 32 (0, 0)) := by
      rw [hb.block _ (by rw [hWd]; simp; omega), hWd, Below.heap_alloc _ _ _ (by simp)]; exact heap_alloc_new _ _
    have e1 : W'.heap[w.heap.size + 1]? = some (.cells #[.int .i64 p, .int .i64 m, .int .i64 e, .slice au M cu] 256 (0, 0)) := by
      rw [hb.block _ (by rw [hWd]; simp), hWd]
      have := heap_alloc_new (w.alloc (.cells #[.slice (some ⟨b, o, none⟩) T.length c] 32)) (.cells #[.int .i64 p, .int .i64 m, .int .i64 e, .slice au M cu] 256)
      simpa using this
    exact ⟨⟨by simp [World.cell?, e0], by simp [World.cell?, e1], by simp [World.cell?, e1], by simp [World.cell?, e1], by simp [World.cell?, e1]⟩, bw_tr hbW hb⟩
  have HP : Hid (∀ y : Nat, y < T.length → ∀ W', Below w.heap.size w W' → W'.cell? ⟨b, o + y * 4, none⟩ = some (.int .i64 (ndAt T y).pub)) := fun y hy W' hb => by
    obtain ⟨u, k, _⟩ := h3 W' hb y hy; exact k.c0
  have k2' := k2.bw (w' := W) (by rw [hWd]; exact bwA _ _)
  have HL : Hid (∀ i z, l[i]? = some z → ∃ g o', au = some ⟨g, o', none⟩ ∧ ∀ W', Below W.heap.size W W' → W'.cell? ⟨g, o' + i, none⟩ = some (.int .i64 z)) := fun i z hz => by
    obtain ⟨g, o', cap, e, hc⟩ := k2'.open (by have := (List.getElem?_eq_some_iff.1 hz).1; omega)
    cases e
    refine ⟨g, o', rfl, fun W' hW => ?_⟩
    have hcc := hc i z hz
    rw [hW.cell (p := ⟨g, o' + i, none⟩) (lt_of_cell (a := ⟨g, o' + i, none⟩) hcc)]; exact hcc
  have HX : Hid (∀ i : Nat, (i : Int) ≤ spT (x : Nat) → 2 * i < T.length) := fun i hi => by omega
  have hF0 : (0 : Int) ≤ spF (x : Nat) := s1
  have hF7 : spF (x : Nat) ≤ 7 := by omega
  have hT7 : spT (x : Nat) ≤ 7 := by omega
  have HW : Hid (W = (w.alloc (.cells #[.slice (some ⟨b, o, none⟩) T.length c] 32)).alloc (.cells #[.int .i64 p, .int .i64 m, .int .i64 e, .slice au M cu] 256)) := hWd
  have HM := hide hM
  obtain ⟨r, hr⟩ : ∃ r, r = ndM T x := ⟨_, rfl⟩
  rw [← hr] at HD ⊢
  have hx1 : (x : Int) < (T.length : Int) := by omega
  have hx2 : (0 : Int) ≤ (x : Int) := by omega
  have g3' : (T.length : Int) ≤ 15 := by omega
  clear h h2 h3 k2 k2' hul hp hm he hl hM hr hw g1 g2 g3 g4 g5 hx hWd hbW s1 s2 s3 hodd
  generalize T.length = N at *
  generalize spF (x : Nat) = F at *
  generalize spT (x : Nat) = L at *
  generalize blkB p m e M = bb at *
  cases bb
  · have HD2 : Hid (r = if p ≤ 0 then false else m == 0 && e == 0 && unM T F L l) := by have := unhide HD; simpa [Hid] using this
    clear HD
    by_cases kp : p ≤ 0
    · obtain rfl : r = false := by rw [unhide HD2, if_pos kp]
      clear HD2
      go_enter Tryz.func291, Tryz.ntmps291
      go_wp2_with fail
      rw [← unhide HW]
      refine (unhide KB).mono ?_
      rintro x1 w1 ⟨rfl, b1⟩
      obtain ⟨⟨d0, d1, d2, d3, d4⟩, b2⟩ := unhide HB _ b1
      clear c0 c1 c2 c3 b1 KB
      go_wp2
      go_ret
      exact ⟨rfl, b2⟩
    · have kp' : decide (p ≤ 0) = false := decide_eq_false kp
      have HD3 : Hid (r = (m == 0 && e == 0 && unM T F L l)) := by have := unhide HD2; rw [if_neg kp] at this; exact this
      clear HD2
      by_cases km : m = 0
      · subst km
        by_cases ke : e = 0
        · subst ke
          have HD4 : Hid (r = unM T F L l) := by have := unhide HD3; simpa [Hid] using this
          clear HD3
          go_enter Tryz.func291, Tryz.ntmps291
          go_wp2_with fail
          rw [← unhide HW]
          refine (unhide KB).mono ?_
          rintro x1 w1 ⟨rfl, b1⟩
          obtain ⟨⟨d0, d1, d2, d3, d4⟩, b2⟩ := unhide HB _ b1
          clear c0 c1 c2 c3 KB
          go_wp2_with fail
          refine (unhide KS w1).mono ?_
          rintro x1 w1 ⟨rfl, rfl⟩
          go_wp2_with fail
          go_loopw [8] (fun iv wr => ∃ i : Nat, iv = .int .i64 (i : Int) ∧ i ≤ M ∧ Hid (∃ f, unM T f L (l.drop i) = r ∧ F ≤ f ∧ (i = 0 → f = F) ∧ ∀ j z, i = j + 1 → l[j]? = some z → f = z + 1) ∧ wr = w1) (fun iv _ => (M - (intOf iv)).toNat)
          case atStart => exact ⟨0, rfl, by omega, ⟨F, (unhide HD4).symm, Int.le_refl _, fun _ => rfl, fun j z hj => by omega⟩, rfl⟩
          case round =>
            obtain ⟨i, rfl, hi, hrem, rfl⟩ := hrel
            by_cases hlt : i < M
            · obtain ⟨z, hz⟩ : ∃ z, l[i]? = some z := ⟨_, List.getElem?_eq_getElem (by have := unhide HM; omega)⟩
              obtain ⟨g, o', rfl, hc⟩ := unhide HL i z hz
              have cz := hc _ b1
              have q1 : (i : Int) < (M : Int) := by omega
              have q0 : (0 : Int) ≤ (i : Int) := by omega
              have hd : l.drop i = z :: l.drop (i + 1) := by
                rw [List.drop_eq_getElem_cons (by have := unhide HM; omega)]; congr 1
                have := List.getElem?_eq_some_iff.1 hz; exact this.2
              obtain ⟨f, hf1, hf2, hf3, hf4⟩ := unhide hrem
              rw [hd] at hf1
              have HF1 : Hid ((decide (f ≤ z) && decide (z ≤ L) && pos (ndAt T (2 * z.toNat)) && unM T (z + 1) L (l.drop (i + 1))) = r) := hf1
              have HZ := hide hz
              clear hf1 hd hrem hz hc
              by_cases kF : z < F
              · have e : r = false := by rw [← unhide HF1, decide_eq_false (by omega)]; simp
                subst e
                clear hf2 hf3 hf4
                go_wp2_with fail
                go_ret
                exact ⟨rfl, b2⟩
              · have kF' : decide (z < F) = false := decide_eq_false kF
                by_cases kL : L < z
                · have e : r = false := by rw [← unhide HF1, decide_eq_false (show ¬ z ≤ L by omega)]; simp
                  subst e
                  clear hf2 hf3 hf4
                  go_wp2_with fail
                  go_ret
                  exact ⟨rfl, b2⟩
                · have kL' : decide (L < z) = false := decide_eq_false kL
                  obtain ⟨y, hy⟩ : ∃ y : Nat, y = 2 * z.toNat := ⟨_, rfl⟩
                  have hyN : y < N := by rw [hy]; exact unhide HX z.toNat (by omega)
                  have cy := unhide HP y hyN _ b2
                  have q3 : 2 * z = (y : Int) := by omega
                  have z0 : 0 ≤ z := by omega
                  have z7 : z ≤ 7 := by omega
                  have y1 : (y : Int) < (N : Int) := by omega
                  have y0 : (0 : Int) ≤ (y : Int) := by omega
                  rw [← hy] at HF1
                  clear hy hyN
                  by_cases kq : (ndAt T y).pub = 0
                  · have e : r = false := by rw [← unhide HF1]; simp [pos, kq]
                    subst e
                    rw [kq] at cy
                    clear hf2 hf3 hf4 kq
                    go_wp2_with fail
                    go_ret
                    exact ⟨rfl, b2⟩
                  · have hpos : pos (ndAt T y) = true := by simp [pos, kq]
                    rw [hpos] at HF1
                    generalize (ndAt T y).pub = q at *
                    have kq1 : (q == 0) = false := by simp [kq]
                    have kq2 : decide (q = 0) = false := by simp [kq]
                    clear hpos kq
                    rcases Nat.eq_zero_or_pos i with h0 | h0
                    · have i0 : decide ((0 : Int) < (i : Int)) = false := decide_eq_false (by omega)
                      have i1 : decide (0 < i) = false := decide_eq_false (by omega)
                      have i2 : ¬ (0 < i) := by omega
                      have hr2 : Hid (unM T (z + 1) L (l.drop (i + 1)) = r) := by
                        have := unhide HF1
                        rw [decide_eq_true (show f ≤ z by rw [hf3 h0]; omega), decide_eq_true (show z ≤ L by omega)] at this
                        simpa [Hid] using this
                      have HJ : Hid (∀ j' z2, i + 1 = j' + 1 → l[j']? = some z2 → z + 1 = z2 + 1) := fun j' z2 hj' hz2 => by
                        obtain rfl : j' = i := by omega
                        have := unhide HZ; rw [hz2] at this; cases this; rfl
                      clear HF1 hf2 hf3 hf4 h0
                      go_wp2_with fail
                      go_roundw
                      case rel => exact ⟨i + 1, by go_num, by omega, ⟨z + 1, unhide hr2, by omega, fun q => by omega, unhide HJ⟩, by trivial⟩
                      case measure => simp [intOf]; omega
                    · obtain ⟨j, hj⟩ : ∃ j, i = j + 1 := ⟨i - 1, by omega⟩
                      obtain ⟨z', hz'⟩ : ∃ z, l[j]? = some z := ⟨_, List.getElem?_eq_getElem (by have := unhide HM; omega)⟩
                      obtain ⟨g', o'', e', hc'⟩ := unhide HL j z' hz'
                      cases e'
                      have cz' := hc' _ b1
                      have j1 : (i : Int) - 1 = (j : Int) := by omega
                      have j2 : (0 : Int) < (i : Int) := by omega
                      have j3 : (j : Int) < (M : Int) := by omega
                      have j4 : (0 : Int) ≤ (j : Int) := by omega
                      have hfz := hf4 j z' hj hz'
                      have HJ : Hid (∀ j' z2, i + 1 = j' + 1 → l[j']? = some z2 → z + 1 = z2 + 1) := fun j' z2 hj' hz2 => by
                        obtain rfl : j' = i := by omega
                        have := unhide HZ; rw [hz2] at this; cases this; rfl
                      clear hf3 hf4 hz' hc' hj HZ
                      by_cases kz : z ≤ z'
                      · have e : r = false := by rw [← unhide HF1, decide_eq_false (show ¬ f ≤ z by omega)]; simp
                        subst e
                        clear hf2 hfz HF1
                        go_wp2_with fail
                        go_ret
                        exact ⟨rfl, b2⟩
                      · have kz' : decide (z ≤ z') = false := decide_eq_false kz
                        have hr2 : Hid (unM T (z + 1) L (l.drop (i + 1)) = r) := by
                          have := unhide HF1
                          rw [decide_eq_true (show f ≤ z by omega), decide_eq_true (show z ≤ L by omega)] at this
                          simpa [Hid] using this
                        clear HF1 hf2 hfz
                        go_wp2_with fail
                        go_roundw
                        case rel => exact ⟨i + 1, by go_num, by omega, ⟨z + 1, unhide hr2, by omega, fun q => by omega, unhide HJ⟩, by trivial⟩
                        case measure => simp [intOf]; omega
            · have e : r = true := by
                obtain ⟨f, hf1, -⟩ := unhide hrem
                rw [← hf1, List.drop_of_length_le (by have := unhide HM; omega)]; rfl
              subst e
              obtain rfl : i = M := by omega
              clear hrem
              go_wp2_with fail
              go_ret
              exact ⟨rfl, b2⟩
        · have k2' : (e == 0) = false := by simp [ke]
          have k2'' : decide (e = 0) = false := by simp [ke]
          have k2n : (e != 0) = true := by simp [ke]
          obtain rfl : r = false := by rw [unhide HD3, k2']; simp
          clear HD3
          go_enter Tryz.func291, Tryz.ntmps291
          go_wp2_with fail
          rw [← unhide HW]
          refine (unhide KB).mono ?_
          rintro x1 w1 ⟨rfl, b1⟩
          obtain ⟨⟨d0, d1, d2, d3, d4⟩, b2⟩ := unhide HB _ b1
          clear c0 c1 c2 c3 b1 KB
          go_wp2
          go_ret
          exact ⟨rfl, b2⟩
      · have k2' : (m == 0) = false := by simp [km]
        have k2'' : decide (m = 0) = false := by simp [km]
        have k2n : (m != 0) = true := by simp [km]
        obtain rfl : r = false := by rw [unhide HD3, k2']; simp
        clear HD3
        go_enter Tryz.func291, Tryz.ntmps291
        go_wp2_with fail
        rw [← unhide HW]
        refine (unhide KB).mono ?_
        rintro x1 w1 ⟨rfl, b1⟩
        obtain ⟨⟨d0, d1, d2, d3, d4⟩, b2⟩ := unhide HB _ b1
        clear c0 c1 c2 c3 b1 KB
        go_wp2
        go_ret
        exact ⟨rfl, b2⟩
  · obtain rfl : r = true := by have := unhide HD; simpa using this
    clear HD
    go_enter Tryz.func291, Tryz.ntmps291
    go_wp2_with fail
    rw [← unhide HW]
    refine (unhide KB).mono ?_
    rintro x1 w1 ⟨rfl, b1⟩
    obtain ⟨⟨d0, d1, d2, d3, d4⟩, b2⟩ := unhide HB _ b1
    clear c0 c1 c2 c3 b1 KB
    go_wp2
    go_ret
    exact ⟨rfl, b2⟩
end Go.Proofs.YtnfhbmlmemifjaaGreatDoor

/- The contract of the document's twice. -/
namespace Go.Proofs.YtnfhbmlmemifjaaGreatDoor
open Go.RowKit Go.Maps
def cls (T : List Nd) (i k : Nat) : Bool := pos (ndAt T (2 * i)) && pos (ndAt T (2 * k)) && ((ndAt T (2 * i)).mem == (ndAt T (2 * k)).mem)
theorem memsOf_mem {L : List Nd} {m : Int} : m ∈ memsOf L ↔ ∃ n ∈ L, pos n = true ∧ n.mem = m := by
  unfold memsOf; simp [List.mem_map, List.mem_filter, and_assoc]
theorem nodup_take {T : List Nd} : ∀ n, n ≤ nlv T → ((memsOf ((lvs T).take n)).Nodup ↔ ∀ i, i < n → ∀ k, k < i → cls T i k = false)
  | 0, _ => by simp [memsOf]
  | n + 1, h => by
    have ih := nodup_take (T := T) n (by omega)
    rw [lvs_take (T := T) (i := n) (by omega), memsOf_snoc]
    have key : pos (ndAt T (2 * n)) = true → ((ndAt T (2 * n)).mem ∈ memsOf ((lvs T).take n) ↔ ∃ k, k < n ∧ cls T n k = true) := fun hp => by
      rw [memsOf_mem]
      constructor
      · rintro ⟨x, hx, h1, h2⟩
        obtain ⟨k, hk, rfl⟩ := List.mem_iff_getElem.1 hx
        have hk2 : k < n := by simp at hk; omega
        have e : ((lvs T).take n)[k] = ndAt T (2 * k) := by
          have := lvs_get (T := T) (i := k) (by omega)
          rw [List.getElem_take]
          exact (List.getElem?_eq_some_iff.1 this).2
        rw [e] at h1 h2
        exact ⟨k, hk2, by simp [cls, hp, h1, h2]⟩
      · rintro ⟨k, hk, hc⟩
        simp only [cls, Bool.and_eq_true, beq_iff_eq] at hc
        refine ⟨ndAt T (2 * k), ?_, hc.1.2, hc.2.symm⟩
        have := lvs_get (T := T) (i := k) (by omega)
        exact List.mem_of_getElem? (i := k) (by rw [List.getElem?_take_of_lt hk]; exact this)
    cases hp : pos (ndAt T (2 * n))
    · simp only [Bool.false_eq_true, if_false, List.append_nil]
      rw [ih]
      constructor
      · intro h1 i hi k hk
        rcases Nat.lt_or_ge i n with c | c
        · exact h1 i c k hk
        · obtain rfl : i = n := by omega
          simp [cls, hp]
      · intro h1 i hi k hk; exact h1 i (by omega) k hk
    · simp only [if_true]
      rw [List.nodup_append]
      constructor
      · rintro ⟨h1, -, h3⟩ i hi k hk
        rcases Nat.lt_or_ge i n with c | c
        · exact ih.1 h1 i c k hk
        · obtain rfl : i = n := by omega
          cases hc : cls T i k
          · rfl
          · exact absurd rfl (h3 _ ((key hp).2 ⟨k, hk, hc⟩) (ndAt T (2 * i)).mem (by simp))
      · intro h1
        refine ⟨ih.2 fun i hi k hk => h1 i (by omega) k hk, by simp, ?_⟩
        intro a ha b hb
        simp at hb
        subst hb
        intro e
        subst e
        obtain ⟨k, hk, hc⟩ := (key hp).1 ha
        rw [h1 n (by omega) k hk] at hc
        cases hc
theorem nodup_cls {T : List Nd} : (mems T).Nodup ↔ ∀ i, i < nlv T → ∀ k, k < i → cls T i k = false := by
  rw [← nodup_take (T := T) (nlv T) (Nat.le_refl _)]
  unfold mems
  rw [← lvs_len, List.take_length]
set_option maxRecDepth 100000 in
set_option maxHeartbeats 2000000 in
theorem rtwice_any {w : World} {v : Value} {T : List Nd} (h : Trd w v T) (hs : T.length ≤ 15) :
    Calls Tryz.prog 292 #[.agg #[v]] w fun e w' => e = .returned (.bool (!decide (mems T).Nodup)) ∧ Below w.heap.size w w' := by
  obtain ⟨a, c, rfl⟩ := h.slice
  obtain ⟨-, h2⟩ := h.at
  obtain ⟨w0, hw0⟩ : ∃ w0, w0 = bxw w (.slice a T.length c) := ⟨_, rfl⟩
  have hb0 : Below w.heap.size w w0 := by rw [hw0]; exact bwA _ _
  have HBX : Hid (∀ W, Below w0.heap.size w0 W → W.cell? ⟨w.heap.size, 0, none⟩ = some (.slice a T.length c) ∧ Below w.heap.size w W) := fun W hW => by subst hw0; exact ⟨bx_cell hW, bx_bel hW⟩
  have HW : Hid (w0 = w.alloc (.cells #[.slice a T.length c] 32)) := hw0
  have HC : Hid (∀ x, x < T.length → ∃ b o, a = some ⟨b, o, none⟩ ∧ ∀ W, Below w.heap.size w W → (W.cell? ⟨b, o + x * 4, none⟩ = some (.int .i64 (ndAt T x).pub) ∧ W.cell? ⟨b, o + x * 4 + 1, none⟩ = some (.int .i64 (ndAt T x).mem))) := fun x hx => by
    obtain ⟨b, o, e, h3⟩ := h2 (by omega)
    exact ⟨b, o, e, fun W hW => by obtain ⟨u, k, _⟩ := h3 W hW x hx; exact ⟨k.c0, k.c1⟩⟩
  have HN : Hid (nlv T = (T.length + 1) / 2) := rfl
  have HR : Hid (((mems T).Nodup ↔ ∀ i, i < nlv T → ∀ k, k < i → cls T i k = false)) := nodup_cls
  have hs1 : (T.length : Int) ≤ 15 := by omega
  obtain ⟨r, hr⟩ : ∃ r, r = !decide (mems T).Nodup := ⟨_, rfl⟩
  rw [← hr]
  have HR1 : Hid (∀ i k, i < nlv T → k < i → cls T i k = true → r = true) := fun i k h1 h2 h3 => by
    rw [hr]
    have : ¬ (mems T).Nodup := fun hd => by rw [(unhide HR).1 hd i h1 k h2] at h3; cases h3
    simp [this]
  have HR2 : Hid ((∀ i, i < nlv T → ∀ k, k < i → cls T i k = false) → r = false) := fun h1 => by
    rw [hr, decide_eq_true ((unhide HR).2 h1)]; rfl
  clear h h2 hw0 hs hr HR
  generalize hnn : nlv T = n at *
  clear hnn
  generalize T.length = N at *
  go_enter Tryz.func292, Tryz.ntmps292
  go_upto_region 1 with fail
  rw [← unhide HW]
  go_wp2_with fail
  go_loopw [3] (fun iv wr => ∃ i x : Nat, iv = .int .i64 (x : Int) ∧ Hid (x = 2 * i ∧ i ≤ n ∧ ∀ i', i' < i → ∀ k, k < i' → cls T i' k = false) ∧ Below w0.heap.size w0 wr) (fun iv _ => (N + 2 - (intOf iv)).toNat)
  case atStart => exact ⟨0, 0, rfl, ⟨rfl, by omega, fun i' h => by omega⟩, Below.refl _ _⟩
  case round =>
    obtain ⟨i, x, rfl, hx, hbel⟩ := hrel
    obtain ⟨c0, hbw⟩ := unhide HBX _ hbel
    have hn := unhide HN
    by_cases hin : x < N
    · have q1 : (x : Int) < (N : Int) := by omega
      have q0 : (0 : Int) ≤ (x : Int) := by omega
      clear hn
      rename World => wo
      go_wp2_with fail
      go_loopw [4] (fun kv wr => ∃ k y : Nat, kv = .int .i64 (y : Int) ∧ Hid (y = 2 * k ∧ k ≤ i ∧ ∀ k', k' < k → cls T i k' = false) ∧ Below w0.heap.size w0 wr) (fun kv _ => (x + 2 - (intOf kv)).toNat)
      case atStart => exact ⟨0, 0, rfl, ⟨rfl, by omega, fun i' h => by omega⟩, hbel⟩
      case round =>
        obtain ⟨k, y, rfl, hy, hbel2⟩ := hrel
        obtain ⟨d0, hbw2⟩ := unhide HBX _ hbel2
        by_cases hyx : y < x
        · have y1 : (y : Int) < (x : Int) := by omega
          have y0 : (0 : Int) ≤ (y : Int) := by omega
          have y2 : (y : Int) < (N : Int) := by omega
          obtain ⟨b, o, rfl, hc1⟩ := unhide HC x hin
          obtain ⟨b', o', e', hc2⟩ := unhide HC y (by omega)
          cases e'
          obtain ⟨e1, e2⟩ := hc1 _ hbw2
          obtain ⟨f1, f2⟩ := hc2 _ hbw2
          have HK : Hid (cls T i k = (((ndAt T x).pub != 0) && ((ndAt T y).pub != 0) && ((ndAt T x).mem == (ndAt T y).mem))) := by
            unfold Hid; obtain ⟨hx1, -⟩ := unhide hx; obtain ⟨hy1, -⟩ := unhide hy; subst hx1 hy1; rfl
          have HK2 : Hid (i < n ∧ k < i) := by obtain ⟨hx1, -⟩ := unhide hx; obtain ⟨hy1, -⟩ := unhide hy; have := unhide HN; exact ⟨by omega, by omega⟩
          have HS : Hid (cls T i k = false → (y + 2 = 2 * (k + 1) ∧ k + 1 ≤ i ∧ ∀ k', k' < k + 1 → cls T i k' = false)) := fun q => by
            obtain ⟨hy1, hy2, hy3⟩ := unhide hy
            refine ⟨by omega, (unhide HK2).2, fun k' hk' => ?_⟩
            rcases Nat.lt_or_ge k' k with c | c
            · exact hy3 k' c
            · obtain rfl : k' = k := by omega
              exact q
          clear hc1 hc2 hy
          generalize (ndAt T x).pub = p at *
          generalize (ndAt T y).pub = p' at *
          generalize (ndAt T x).mem = m at *
          generalize (ndAt T y).mem = m' at *
          by_cases k1 : p = 0
          · have hcl := unhide HS (by rw [unhide HK, k1]; rfl)
            have HCL := hide hcl
            subst k1
            clear hcl HK HS HK2
            go_wp2_with fail
            go_quiet (fail)
            go_wp2_with fail
            go_roundw
            case rel => exact ⟨k + 1, y + 2, by go_num, unhide HCL, below_drewN hbel2 _⟩
            case measure => simp [intOf]; omega
          · have p1 : (p != 0) = true := by simp [k1]
            have p2 : decide (p = 0) = false := by simp [k1]
            have p3 : (p == 0) = false := by simp [k1]
            by_cases k2 : p' = 0
            · have hcl := unhide HS (by rw [unhide HK, k2]; simp)
              have HCL := hide hcl
              subst k2
              clear hcl HK HS HK2 k1
              go_wp2_with fail
              go_quiet (fail)
              go_wp2_with fail
              go_roundw
              case rel => exact ⟨k + 1, y + 2, by go_num, unhide HCL, below_drewN hbel2 _⟩
              case measure => simp [intOf]; omega
            · have r1 : (p' != 0) = true := by simp [k2]
              have r2 : decide (p' = 0) = false := by simp [k2]
              have r3 : (p' == 0) = false := by simp [k2]
              by_cases k3 : m = m'
              · subst k3
                obtain rfl : r = true := unhide HR1 i k (unhide HK2).1 (unhide HK2).2 (by rw [unhide HK, p1, r1]; simp)
                clear HK HS HK2 k1 k2 HR1 HR2
                go_wp2_with fail
                go_quiet (fail)
                go_wp2_with fail
                go_ret
                exact ⟨rfl, below_drewN hbw2 _⟩
              · have s1 : (m == m') = false := by simp [k3]
                have s2 : decide (m = m') = false := by simp [k3]
                have hcl := unhide HS (by rw [unhide HK, s1]; simp)
                have HCL := hide hcl
                clear hcl HK HS HK2 k1 k2 k3
                go_wp2_with fail
                go_quiet (fail)
                go_wp2_with fail
                go_roundw
                case rel => exact ⟨k + 1, y + 2, by go_num, unhide HCL, below_drewN hbel2 _⟩
                case measure => simp [intOf]; omega
        · have y1 : decide ((y : Int) < (x : Int)) = false := decide_eq_false (by omega)
          have HX2 : Hid (x + 2 = 2 * (i + 1) ∧ i + 1 ≤ n ∧ ∀ i', i' < i + 1 → ∀ k, k < i' → cls T i' k = false) := by
            obtain ⟨hx1, hx2, hx3⟩ := unhide hx
            obtain ⟨hy1, hy2, hy3⟩ := unhide hy
            have hn := unhide HN
            refine ⟨by omega, by omega, fun i' hi' k' hk' => ?_⟩
            rcases Nat.lt_or_ge i' i with c | c
            · exact hx3 i' c k' hk'
            · obtain rfl : i' = i := by omega
              exact hy3 k' (by omega)
          clear hy hx
          go_wp2_with fail
          go_roundw
          case rel => exact ⟨i + 1, x + 2, by go_num, unhide HX2, hbel2⟩
          case measure => simp [intOf]; omega
    · have q1 : decide ((x : Int) < (N : Int)) = false := decide_eq_false (by omega)
      obtain rfl : r = false := unhide HR2 (by
        obtain ⟨hx1, hx2, hx3⟩ := unhide hx
        intro i' hi' k hk
        exact hx3 i' (by omega) k hk)
      clear hx hn
      go_wp2_with fail
      go_ret
      exact ⟨rfl, hbw⟩
end Go.Proofs.YtnfhbmlmemifjaaGreatDoor
