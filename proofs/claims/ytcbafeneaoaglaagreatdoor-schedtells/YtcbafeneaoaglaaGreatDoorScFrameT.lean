/- A tree that came in: how it reads, and the bounds of its numbers. -/
import Derived.Test.YtcbafeneaoaglaaGreatDoorTrFrame
import Derived.Test.YtcbafeneaoaglaaGreatDoorZ24
import Derived.Test.YtcbafeneaoaglaaGreatDoorScI
namespace Go.Proofs.YtcbafeneaoaglaaGreatDoor.Tn
open Go.ChangeShapes Go.WideShapes Go.ChangeAt Go.RowKit Go.Joins Go.Deep

set_option maxRecDepth 100000 in
theorem open_tree_rng {H : Type} {enc : TypeId × Value → H} {W : World} {spare : Nat → Bool} {held : Bool} {r : Reach} {b0 : Nat} {v : Value} {d : DataW H} {p : List MemPlace}
    (hval : Value.okWide Tryz.prog W r b0 25 v) (h : DataW.Trod enc Tryz.prog W 0 spare held 25 v d p) (hsz : ∀ n ∈ d.weights Tryz.prog 25, n ≤ reachBytes) : ∃ x T, v = .agg #[x] ∧ Trd W x T ∧ Trng T := by
  obtain ⟨cs, rfl, hcsz⟩ := okWide_struct Tryz.underlying25 hval
  have hC1 : Tryz.prog.cellsOf 25 = 1 := by kernel_rfl
  obtain ⟨x, rfl⟩ : ∃ x, cs = #[x] := by
    obtain ⟨l⟩ := cs
    match l, hcsz.trans hC1 with
    | [x], _ => exact ⟨x, rfl⟩
  obtain ⟨fuel, hf⟩ := h
  obtain ⟨y0, n0, hd0, _, hy0⟩ := trod_struct1 Tryz.underlying25 hf
  have hC2 : Tryz.prog.cellsOf 23 = 1 := by kernel_rfl
  simp [Value.cells, hC2] at hy0
  have hd : d = .agg [y0.1] := hd0
  have hszN : ∀ n ∈ y0.1.weights Tryz.prog 23, n ≤ reachBytes := fun n hn => hsz n (by rw [hd]; simp [DataW.weights, DataW.weightsEach, Tryz.underlying25, hn])
  refine ⟨x, ?_⟩
  rcases open_slice Tryz.underlying23 hy0 with ⟨hcs, _⟩ | ⟨a, len, cap, m, n, D, Pl, hcs, _, hl, hm, hmm, hx, hel⟩
  · simp at hcs
    exact ⟨[], rfl, ⟨by simp, by simp, Or.inl ⟨rfl, none, 0, hcs⟩⟩, by intro x hx; cases hx⟩
  · simp at hcs
    subst hcs
    have hlm : len ≤ m := by rw [hmm]; split <;> omega
    have hr := reachBytes_lt
    have hlen : len ≤ 140737488355328 := by
      have := hszN ((len + (m - len)) * 48) (by rw [hx]; simp [DataW.weights, Tryz.underlying23, bytesN])
      simp at hr; omega
    have each : ∀ i, i < len → ∃ (nn : Nd) (u : Value), (W.cell? (a.add (i * 4)) = some (.int .i64 nn.pub) ∧ W.cell? (a.add (i * 4 + 1)) = some (.int .i64 nn.mem) ∧ W.cell? (a.add (i * 4 + 2)) = some (.int .i64 nn.ep) ∧ W.cell? (a.add (i * 4 + 3)) = some u) ∧ Nums W u nn.un ∧ nn.un.length ≤ 140737488355328 ∧ ((∀ z ∈ nn.un, -9223372036854775808 ≤ z ∧ z ≤ 9223372036854775807) ∧ (-9223372036854775808 ≤ nn.mem ∧ nn.mem ≤ 9223372036854775807) ∧ (-9223372036854775808 ≤ nn.ep ∧ nn.ep ≤ 9223372036854775807)) := by
      intro i hi
      obtain ⟨cs', h1, h2⟩ := hel i (by omega)
      rw [cellsN] at h1
      obtain ⟨_, hlen4, hcell⟩ := World.cells?_some h1
      obtain ⟨z0, z1, z2, z3, n', hxy, _, g0, g1, g2, g3⟩ := trod_struct4b Tryz.underlying62 h2
      match cs', hlen4 with
      | [v0, v1, v2, v3], _ =>
        have i1 : Tryz.prog.cellsOf 3 = 1 := cellsI
        have i2 : Tryz.prog.cellsOf 55 = 1 := by kernel_rfl
        simp [i1, i2] at g0 g1 g2 g3
        obtain ⟨q0, e0, -, -⟩ := DataW.trod_int Tryz.underlying3 g0
        obtain ⟨q1, e1, -, w1⟩ := DataW.trod_int Tryz.underlying3 g1
        obtain ⟨q2, e2, -, w2⟩ := DataW.trod_int Tryz.underlying3 g2
        simp at e0 e1 e2
        subst e0 e1 e2
        have hsz3 : ∀ n ∈ z3.1.weights Tryz.prog 55, n ≤ reachBytes := fun n hn => hszN n (by
          rw [hx]
          simp only [DataW.weights, Tryz.underlying23]
          refine List.mem_cons_of_mem _ (List.mem_append_left _ (mem_weightsAll (d := D i) (List.mem_map.2 ⟨i, List.mem_range.2 hi, rfl⟩) ?_))
          have hD : D i = .agg [z0.1, z1.1, z2.1, z3.1] := hxy
          rw [hD]
          simp [DataW.weights, DataW.weightsEach, Tryz.underlying62, hn])
        obtain ⟨l, hl1, hl2⟩ := open_numsT g3 hsz3
        have hbd : ∀ z ∈ l, -9223372036854775808 ≤ z ∧ z ≤ 9223372036854775807 := by
          obtain ⟨a3, c3, hv3⟩ := nums_slice hl1
          subst hv3
          obtain ⟨l', hll, hni⟩ := open_nums (d := z3.1) (p := z3.2) (a := a3) (len := l.length) (cap := c3) ⟨n', by simpa [Value.cells] using g3⟩ hsz3
          intro z hz
          obtain ⟨i, hi⟩ := List.mem_iff_getElem?.1 hz
          have hil := (List.getElem?_eq_some_iff.1 hi).1
          obtain ⟨g', o', cap', hv', hc'⟩ := hl1.open (by omega)
          obtain ⟨a4, cap4, hv4, _, hb4, hc4⟩ := hni
          rcases hc4 with rfl | ⟨g4, o4, ha4, hc4⟩
          · simp at hll; omega
          · injection hv' with e5 e6 e7
            injection hv4 with e8 e9 e10
            subst e8
            rw [ha4] at e5
            injection e5 with e5
            injection e5 with e11 e12
            subst e11; subst e12
            obtain ⟨z', hz'⟩ : ∃ z', l'[i]? = some z' := ⟨_, List.getElem?_eq_getElem (by omega)⟩
            have h1' := hc' i z hi
            have h2' := hc4 i z' hz'
            rw [h1'] at h2'
            simp at h2'
            subst h2'
            exact hb4 z (List.mem_of_getElem? hz')
        have c0 := hcell 0 (by omega)
        have c1 := hcell 1 (by omega)
        have c2 := hcell 2 (by omega)
        have c3 := hcell 3 (by omega)
        rw [add_add] at c0 c1 c2 c3
        exact ⟨⟨q0, q1, q2, l⟩, v3, ⟨by simpa using c0, by simpa using c1, by simpa using c2, by simpa using c3⟩, hl1, hl2, hbd, bounds64 w1, bounds64 w2⟩
    obtain ⟨f, g, hfx⟩ := choose_nd each
    refine ⟨(List.range len).map f, rfl, ⟨by simpa using hlen, ?_, ?_⟩, fun y hy => by obtain ⟨i, hi, rfl⟩ := List.mem_map.1 hy; exact (hfx i (List.mem_range.1 hi)).2.2.2⟩
    · intro y hy
      obtain ⟨i, hi, rfl⟩ := List.mem_map.1 hy
      exact (hfx i (List.mem_range.1 hi)).2.2.1
    · rcases Nat.eq_zero_or_pos len with h0 | h0
      · subst h0; exact Or.inl ⟨rfl, some a, cap, rfl⟩
      · obtain ⟨b, off, spot⟩ := a
        have k0 := (hfx 0 h0).1.1
        have hspot : spot = none := by simpa [Addr.add] using World.cell?_spot k0
        subst hspot
        refine Or.inr ⟨b, off, cap, by simp, World.block_lt_of_cell? W _ (by simpa [Addr.add] using k0), fun i nn hnn => ?_⟩
        have hi : i < len := by
          rcases Nat.lt_or_ge i len with q | q
          · exact q
          · simp [q] at hnn
        simp [hi] at hnn
        subst hnn
        obtain ⟨⟨k0, k1, k2, k3⟩, k4, _⟩ := hfx i hi
        have ea : ∀ j, (⟨b, off, none⟩ : Addr).add j = ⟨b, off + j, none⟩ := fun j => by
          unfold Addr.add; by_cases hj : j = 0 <;> simp [hj]
        rw [ea] at k0 k1 k2 k3
        exact ⟨g i, ⟨k0, by rw [Nat.add_assoc]; exact k1, by rw [Nat.add_assoc]; exact k2, by rw [Nat.add_assoc]; exact k3⟩, k4⟩
end Go.Proofs.YtcbafeneaoaglaaGreatDoor.Tn
