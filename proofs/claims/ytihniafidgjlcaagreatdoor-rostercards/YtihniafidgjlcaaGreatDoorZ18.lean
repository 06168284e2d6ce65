/- Texts joined: PoS RoTd. -/
import Derived.Test.YtihniafidgjlcaaGreatDoorZ12
import Derived.Test.YtihniafidgjlcaaGreatDoorZ17
import Derived.Deep.MidRow
/- SameFace, SameMail, SameMails, SameBox of equal ones. -/
namespace Go.Proofs.YtihniafidgjlcaaGreatDoor
open Go.RowKit Go.Maps
theorem Tryz.cellsCardsx : Tryz.prog.cellsOf 44 = 3 := by kernel_rfl
theorem Tryz.wideCardsx : (match Tryz.prog.underlying 44 with | some (.array _ _) | some (.struct _) => true | _ => false) = true := by kernel_rfl
theorem keyOf_Cards (z0 z1 z2 : Int) (h0 : -9223372036854775808 ≤ z0 ∧ z0 ≤ 9223372036854775807) (h1 : -9223372036854775808 ≤ z1 ∧ z1 ≤ 9223372036854775807) (h2 : -9223372036854775808 ≤ z2 ∧ z2 ≤ 9223372036854775807) : ∃ kl, keyOf Tryz.prog 44 (.agg #[.int .i64 z0, .int .i64 z1, .int .i64 z2]) = some kl := by
  have hk : Tryz.prog.keyType 44 = true := by kernel_rfl
  have hf : (Value.agg #[.int .i64 z0, .int .i64 z1, .int .i64 z2]).formed Tryz.prog 44 = true := by
    have u0 := Tryz.underlying44
    have c0 := Tryz.cellsCardsx
    generalize Tryz.prog = P at *
    simp [Value.formed, u0, c0]
  obtain ⟨m, hm⟩ : ∃ m, Tryz.prog.types.size = m + 1 := ⟨Tryz.prog.types.size - 1, by have : 0 < Tryz.prog.types.size := of_decide_eq_true (by kernel_rfl); omega⟩
  have c3 : Tryz.prog.cellsOf 3 = 1 := by kernel_rfl
  refine ⟨.string (keyBytes [.int .i64 z0, .int .i64 z1, .int .i64 z2]), ?_⟩
  have w0 := wf_i64' h0
  have w1 := wf_i64' h1
  have w2 := wf_i64' h2
  have u0 := Tryz.underlying44
  have u3 := Tryz.underlying3
  have c0 := Tryz.cellsCardsx
  generalize Tryz.prog = P at *
  simp only [keyOf, u0, hk, hf, hm, Bool.and_self, if_true]
  simp [Program.keyLits, u0, u3, c0, c3, Value.cells, w0, w1, w2]
set_option maxRecDepth 100000 in
theorem equal_Cards (w : World) (z0 z1 z2 : Int) (h0 : -9223372036854775808 ≤ z0 ∧ z0 ≤ 9223372036854775807) (h1 : -9223372036854775808 ≤ z1 ∧ z1 ≤ 9223372036854775807) (h2 : -9223372036854775808 ≤ z2 ∧ z2 ≤ 9223372036854775807) : (Op.equal 44 (.agg #[.int .i64 z0, .int .i64 z1, .int .i64 z2]) (.agg #[.int .i64 z0, .int .i64 z1, .int .i64 z2])).run Tryz.prog w = .ok true w := by
  obtain ⟨x, hx⟩ := keyOf_Cards z0 z1 z2 h0 h1 h2
  obtain ⟨r, hr, hiff⟩ := run_equal_deep w (m := 3) (by omega) (by kernel_rfl) Tryz.wideCardsx hx hx
  rw [hr, hiff.2 rfl]
theorem infoMlS : (Tryz.prog.info? 50).map (·.size) = some 30 := by kernel_rfl
theorem blk_rng {W : World} {b : Nat} {cs : List Value} {t : TypeId} (h : W.heap[b]? = some (.cells cs.toArray t (0, 0))) {o : Nat} {ds : List Value} (hd : ∀ j u, ds[j]? = some u → cs[o + j]? = some u) : W.rangeAt b o ds := fun j u hj => blk_c h (by rw [List.getElem?_toArray]; exact hd j u hj)
end Go.Proofs.YtihniafidgjlcaaGreatDoor

/- SameCards of equal rows. mkRoT.py writes it. -/
namespace Go.Proofs.YtihniafidgjlcaaGreatDoor
open Go.RowKit Go.Maps
set_option maxRecDepth 100000 in
set_option maxHeartbeats 4000000 in
theorem sameCards_any (va vb : Value) (l : List (List Int)) (w : World) (ha : RI 3 w va l) (hb : RI 3 w vb l) :
    Calls Tryz.prog 25 #[va, vb] w fun e w' => e = .returned (.bool true) ∧ Below w.heap.size w w' := by
  obtain ⟨a, ca, rfl⟩ := ha.slice
  obtain ⟨b, cb, rfl⟩ := hb.slice
  have hlA := ha.len
  have hok := ha.fit
  obtain ⟨N, hN⟩ : ∃ N, N = l.length := ⟨_, rfl⟩
  rw [← hN] at ha hb hlA ⊢
  have hNb : (N : Int) ≤ 140737488355328 := by omega
  have HH := hide (And.intro ha (And.intro hb (And.intro hok hN)))
  clear ha hb hok hN hlA
  go_enter Tryz.func25, Tryz.ntmps25
  go_wp2_with fail
  go_loopw [13] (fun iv wr => ∃ i : Nat, iv = .int .i64 i ∧ i ≤ N ∧ Hid (Below w.heap.size w wr)) (fun iv _ => (N - (intOf iv)).toNat)
  case atStart => exact ⟨0, rfl, by omega, Below.refl _ _⟩
  case round =>
    obtain ⟨i, rfl, hi, hbel⟩ := hrel
    by_cases hin : i < N
    · obtain ⟨ha, hb, hok, hN⟩ := unhide HH
      obtain ⟨z, hz⟩ : ∃ z, l[i]? = some z := ⟨_, List.getElem?_eq_getElem (by omega)⟩
      obtain ⟨g, o, rfl, hc1⟩ := (ha.bw (unhide hbel)).get hz
      obtain ⟨g', o', rfl, hc2⟩ := (hb.bw (unhide hbel)).get hz
      obtain ⟨hz1, hz2⟩ := hok z (List.mem_of_getElem? hz)
      obtain ⟨z0, z1, z2, rfl⟩ : ∃ z0 z1 z2, z = [z0, z1, z2] := by
        match z, hz1 with
        | [z0, z1, z2], _ => exact ⟨z0, z1, z2, rfl⟩
      have he : ∀ W, (Op.equal 44 (.agg #[.int .i64 z0, .int .i64 z1, .int .i64 z2]) (.agg #[.int .i64 z0, .int .i64 z1, .int .i64 z2])).run Tryz.prog W = .ok true W := fun W => equal_Cards W z0 z1 z2 (hz2 z0 (by simp)) (hz2 z1 (by simp)) (hz2 z2 (by simp))
      have c0 := hc1 0 _ rfl
      have d0 := hc2 0 _ rfl
      have c1 := hc1 1 _ rfl
      have d1 := hc2 1 _ rfl
      have c2 := hc1 2 _ rfl
      have d2 := hc2 2 _ rfl
      simp only [Nat.add_zero] at c0 d0
      have hi1 : (i : Int) < (N : Int) := by omega
      clear ha hb hok hN hz HH hc1 hc2 hz1 hz2
      go_wp2_with fail
      go_quiet (fail)
      go_wp2_with fail
      go_roundw
      case rel => exact ⟨i + 1, by go_num, by omega, below_drewN (unhide hbel) _⟩
      case measure => simp [intOf]; omega
    · have hie : i = N := by omega
      subst hie
      clear HH
      go_wp2_with fail
      go_ret
      exact ⟨rfl, unhide hbel⟩
end Go.Proofs.YtihniafidgjlcaaGreatDoor
