/- Trees, rows of structs of numbers, commits and logs, opened off what a caller hands in. -/
import Derived.Test.YtnfhbmlmemifjaaGreatDoorTrFrameU
import Derived.Test.YtnfhbmlmemifjaaGreatDoorZ04
namespace Go.Proofs.YtnfhbmlmemifjaaGreatDoor
open Go.ChangeShapes Go.WideShapes Go.ChangeAt Go.RowKit Go.Joins Go.Deep Go.Maps
set_option maxRecDepth 100000 in
theorem open_nodesT {H : Type} {enc : TypeId × Value → H} {W : World} {spare : Nat → Bool} {held : Bool} {fuel : Nat} {x : Value} {y : DataW H × List MemPlace}
    (hy : DataW.trod enc Tryz.prog W 0 spare held fuel 30 [x] = some y) (hszN : ∀ n ∈ y.1.weights Tryz.prog 30, n ≤ reachBytes) : ∃ T, Trd W x T := by
  rcases open_slice Tryz.underlying30 hy with ⟨hcs, _⟩ | ⟨a, len, cap, m, n, D, Pl, hcs, _, hl, hm, hmm, hx, hel⟩
  · simp at hcs
    exact ⟨[], ⟨by simp, by simp, Or.inl ⟨rfl, none, 0, hcs⟩⟩⟩
  · simp at hcs
    subst hcs
    have hlm : len ≤ m := by rw [hmm]; split <;> omega
    have hr := reachBytes_lt
    have hlen : len ≤ 140737488355328 := by
      have := hszN ((len + (m - len)) * 48) (by rw [hx]; simp [DataW.weights, Tryz.underlying30, bytesN])
      simp at hr; omega
    have each : ∀ i, i < len → ∃ (nn : Nd) (u : Value), (W.cell? (a.add (i * 4)) = some (.int .i64 nn.pub) ∧ W.cell? (a.add (i * 4 + 1)) = some (.int .i64 nn.mem) ∧ W.cell? (a.add (i * 4 + 2)) = some (.int .i64 nn.ep) ∧ W.cell? (a.add (i * 4 + 3)) = some u) ∧ Nums W u nn.un ∧ nn.un.length ≤ 140737488355328 := by
      intro i hi
      obtain ⟨cs', h1, h2⟩ := hel i (by omega)
      rw [cellsN] at h1
      obtain ⟨_, hlen4, hcell⟩ := World.cells?_some h1
      obtain ⟨z0, z1, z2, z3, n', hxy, _, g0, g1, g2, g3⟩ := trod_struct4b Tryz.underlying256 h2
      match cs', hlen4 with
      | [v0, v1, v2, v3], _ =>
        have i1 : Tryz.prog.cellsOf 3 = 1 := cellsI
        have i2 : Tryz.prog.cellsOf 27 = 1 := by kernel_rfl
        simp [i1, i2] at g0 g1 g2 g3
        obtain ⟨q0, e0, -, -⟩ := DataW.trod_int Tryz.underlying3 g0
        obtain ⟨q1, e1, -, -⟩ := DataW.trod_int Tryz.underlying3 g1
        obtain ⟨q2, e2, -, -⟩ := DataW.trod_int Tryz.underlying3 g2
        simp at e0 e1 e2
        subst e0 e1 e2
        have hsz3 : ∀ n ∈ z3.1.weights Tryz.prog 27, n ≤ reachBytes := fun n hn => hszN n (by
          rw [hx]
          simp only [DataW.weights, Tryz.underlying30]
          refine List.mem_cons_of_mem _ (List.mem_append_left _ (mem_weightsAll (d := D i) (List.mem_map.2 ⟨i, List.mem_range.2 hi, rfl⟩) ?_))
          have hD : D i = .agg [z0.1, z1.1, z2.1, z3.1] := hxy
          rw [hD]
          simp [DataW.weights, DataW.weightsEach, Tryz.underlying256, hn])
        obtain ⟨l, hl1, hl2⟩ := open_numsT g3 hsz3
        have c0 := hcell 0 (by omega)
        have c1 := hcell 1 (by omega)
        have c2 := hcell 2 (by omega)
        have c3 := hcell 3 (by omega)
        rw [add_add] at c0 c1 c2 c3
        exact ⟨⟨q0, q1, q2, l⟩, v3, ⟨by simpa using c0, by simpa using c1, by simpa using c2, by simpa using c3⟩, hl1, hl2⟩
    obtain ⟨f, g, hfx⟩ := choose_nd each
    refine ⟨(List.range len).map f, by simpa using hlen, ?_, ?_⟩
    · intro y hy
      obtain ⟨i, hi, rfl⟩ := List.mem_map.1 hy
      exact (hfx i (List.mem_range.1 hi)).2.2
    · rcases Nat.eq_zero_or_pos len with h0 | h0
      · subst h0; exact Or.inl ⟨rfl, some a, cap, rfl⟩
      · obtain ⟨b, off, spot⟩ := a
        have k0 := (hfx 0 h0).1.1
        have hspot : spot = none := by simpa [Addr.add] using World.cell?_spot k0
        subst hspot
        refine Or.inr ⟨b, off, cap, by simp, World.block_lt_of_cell? W _ (by simpa [Addr.add] using k0), fun i nn hnn => ?_⟩
        have hi : i < len := by
          rcases Nat.lt_or_ge i len with q | q
          · exact q
          · simp [q] at hnn
        simp [hi] at hnn
        subst hnn
        obtain ⟨⟨k0, k1, k2, k3⟩, k4, _⟩ := hfx i hi
        have ea : ∀ j, (⟨b, off, none⟩ : Addr).add j = ⟨b, off + j, none⟩ := fun j => by
          unfold Addr.add; by_cases hj : j = 0 <;> simp [hj]
        rw [ea] at k0 k1 k2 k3
        exact ⟨g i, ⟨k0, by rw [Nat.add_assoc]; exact k1, by rw [Nat.add_assoc]; exact k2, by rw [Nat.add_assoc]; exact k3⟩, k4⟩
theorem bytesaddsT : Tryz.prog.bytesOf 131 = 24 := by kernel_rfl
theorem cellsaddsT : Tryz.prog.cellsOf 131 = 3 := by kernel_rfl
set_option maxRecDepth 100000 in
theorem open_addsT {H : Type} {enc : TypeId × Value → H} {W : World} {spare : Nat → Bool} {held : Bool} {fuel : Nat} {x : Value} {y : DataW H × List MemPlace}
    (hy : DataW.trod enc Tryz.prog W 0 spare held fuel 26 [x] = some y) (hsz : ∀ n ∈ y.1.weights Tryz.prog 26, n ≤ reachBytes) : ∃ l, RI 3 W x l := by
  rcases open_slice Tryz.underlying26 hy with ⟨hcs, _⟩ | ⟨a, len, cap, m, n, D, Pl, hcs, _, hl, hm, hmm, hx, hel⟩
  · simp at hcs
    subst hcs
    exact ⟨[], RI.nil _ _⟩
  · simp at hcs
    subst hcs
    have hlm : len ≤ m := by rw [hmm]; split <;> omega
    have hr := reachBytes_lt
    have hlen : len ≤ 140737488355328 := by
      have := hsz ((len + (m - len)) * 24) (by rw [hx]; simp [DataW.weights, Tryz.underlying26, bytesaddsT])
      simp at hr; omega
    have each : ∀ i, i < len → ∃ q : List Int, (q.length = 3 ∧ ∀ z ∈ q, -9223372036854775808 ≤ z ∧ z ≤ 9223372036854775807) ∧ ∀ j z, q[j]? = some z → W.cell? (a.add (i * 3 + j)) = some (.int .i64 z) := by
      intro i hi
      obtain ⟨cs, h1, h2⟩ := hel i (by omega)
      rw [cellsaddsT] at h1
      obtain ⟨_, hlen3, hcell⟩ := World.cells?_some h1
      obtain ⟨xs, n', _, _, _, hxl, hf⟩ := DataW.trod_struct Tryz.underlying131 h2
      match cs, hlen3 with
      | [v0, v1, v2], _ =>
        match xs, hxl with
        | [x0, x1, x2], _ =>
          have g0 := hf 0 _ rfl
          have g1 := hf 1 _ rfl
          have g2 := hf 2 _ rfl
          simp [cellsI] at g0 g1 g2
          obtain ⟨q0, e0, -, w0⟩ := DataW.trod_int Tryz.underlying3 g0
          obtain ⟨q1, e1, -, w1⟩ := DataW.trod_int Tryz.underlying3 g1
          obtain ⟨q2, e2, -, w2⟩ := DataW.trod_int Tryz.underlying3 g2
          simp at e0 e1 e2
          subst e0 e1 e2
          refine ⟨[q0, q1, q2], ⟨rfl, fun z hz => ?_⟩, fun j z hj => ?_⟩
          · simp at hz
            rcases hz with rfl | rfl | rfl
            · exact bounds64 w0
            · exact bounds64 w1
            · exact bounds64 w2
          · match j, hj with
            | 0, hj => cases hj; have c0 := hcell 0 (by omega); rw [add_add] at c0; simpa using c0
            | 1, hj => cases hj; have c0 := hcell 1 (by omega); rw [add_add] at c0; simpa using c0
            | 2, hj => cases hj; have c0 := hcell 2 (by omega); rw [add_add] at c0; simpa using c0
    obtain ⟨f, hfx⟩ := @choose_lt (List Int) ⟨[]⟩ len _ each
    refine ⟨(List.range len).map f, by simpa using hlen, ?_, some a, cap, by simp, ?_⟩
    · intro y hy
      obtain ⟨i, hi, rfl⟩ := List.mem_map.1 hy
      exact (hfx i (List.mem_range.1 hi)).1
    · rcases Nat.eq_zero_or_pos len with h0 | h0
      · subst h0; exact Or.inl rfl
      · obtain ⟨b, off, spot⟩ := a
        obtain ⟨z0, hz0⟩ : ∃ z, (f 0)[0]? = some z := ⟨_, List.getElem?_eq_getElem (by have := (hfx 0 h0).1.1; omega)⟩
        have k0 := (hfx 0 h0).2 0 z0 hz0
        have hspot : spot = none := by simpa [Addr.add] using World.cell?_spot k0
        subst hspot
        refine Or.inr ⟨b, off, rfl, fun i q hq j z hj => ?_⟩
        have hi : i < len := by
          rcases Nat.lt_or_ge i len with c | c
          · exact c
          · simp [c] at hq
        simp [hi] at hq
        subst hq
        have k := (hfx i hi).2 j z hj
        have ea : ∀ j, (⟨b, off, none⟩ : Addr).add j = ⟨b, off + j, none⟩ := fun j => by
          unfold Addr.add; by_cases hj : j = 0 <;> simp [hj]
        rw [ea] at k
        rw [Nat.add_assoc]; exact k
theorem bytessealsT : Tryz.prog.bytesOf 133 = 24 := by kernel_rfl
theorem cellssealsT : Tryz.prog.cellsOf 133 = 3 := by kernel_rfl
set_option maxRecDepth 100000 in
theorem open_sealsT {H : Type} {enc : TypeId × Value → H} {W : World} {spare : Nat → Bool} {held : Bool} {fuel : Nat} {x : Value} {y : DataW H × List MemPlace}
    (hy : DataW.trod enc Tryz.prog W 0 spare held fuel 28 [x] = some y) (hsz : ∀ n ∈ y.1.weights Tryz.prog 28, n ≤ reachBytes) : ∃ l, RI 3 W x l := by
  rcases open_slice Tryz.underlying28 hy with ⟨hcs, _⟩ | ⟨a, len, cap, m, n, D, Pl, hcs, _, hl, hm, hmm, hx, hel⟩
  · simp at hcs
    subst hcs
    exact ⟨[], RI.nil _ _⟩
  · simp at hcs
    subst hcs
    have hlm : len ≤ m := by rw [hmm]; split <;> omega
    have hr := reachBytes_lt
    have hlen : len ≤ 140737488355328 := by
      have := hsz ((len + (m - len)) * 24) (by rw [hx]; simp [DataW.weights, Tryz.underlying28, bytessealsT])
      simp at hr; omega
    have each : ∀ i, i < len → ∃ q : List Int, (q.length = 3 ∧ ∀ z ∈ q, -9223372036854775808 ≤ z ∧ z ≤ 9223372036854775807) ∧ ∀ j z, q[j]? = some z → W.cell? (a.add (i * 3 + j)) = some (.int .i64 z) := by
      intro i hi
      obtain ⟨cs, h1, h2⟩ := hel i (by omega)
      rw [cellssealsT] at h1
      obtain ⟨_, hlen3, hcell⟩ := World.cells?_some h1
      obtain ⟨xs, n', _, _, _, hxl, hf⟩ := DataW.trod_struct Tryz.underlying133 h2
      match cs, hlen3 with
      | [v0, v1, v2], _ =>
        match xs, hxl with
        | [x0, x1, x2], _ =>
          have g0 := hf 0 _ rfl
          have g1 := hf 1 _ rfl
          have g2 := hf 2 _ rfl
          simp [cellsI] at g0 g1 g2
          obtain ⟨q0, e0, -, w0⟩ := DataW.trod_int Tryz.underlying3 g0
          obtain ⟨q1, e1, -, w1⟩ := DataW.trod_int Tryz.underlying3 g1
          obtain ⟨q2, e2, -, w2⟩ := DataW.trod_int Tryz.underlying3 g2
          simp at e0 e1 e2
          subst e0 e1 e2
          refine ⟨[q0, q1, q2], ⟨rfl, fun z hz => ?_⟩, fun j z hj => ?_⟩
          · simp at hz
            rcases hz with rfl | rfl | rfl
            · exact bounds64 w0
            · exact bounds64 w1
            · exact bounds64 w2
          · match j, hj with
            | 0, hj => cases hj; have c0 := hcell 0 (by omega); rw [add_add] at c0; simpa using c0
            | 1, hj => cases hj; have c0 := hcell 1 (by omega); rw [add_add] at c0; simpa using c0
            | 2, hj => cases hj; have c0 := hcell 2 (by omega); rw [add_add] at c0; simpa using c0
    obtain ⟨f, hfx⟩ := @choose_lt (List Int) ⟨[]⟩ len _ each
    refine ⟨(List.range len).map f, by simpa using hlen, ?_, some a, cap, by simp, ?_⟩
    · intro y hy
      obtain ⟨i, hi, rfl⟩ := List.mem_map.1 hy
      exact (hfx i (List.mem_range.1 hi)).1
    · rcases Nat.eq_zero_or_pos len with h0 | h0
      · subst h0; exact Or.inl rfl
      · obtain ⟨b, off, spot⟩ := a
        obtain ⟨z0, hz0⟩ : ∃ z, (f 0)[0]? = some z := ⟨_, List.getElem?_eq_getElem (by have := (hfx 0 h0).1.1; omega)⟩
        have k0 := (hfx 0 h0).2 0 z0 hz0
        have hspot : spot = none := by simpa [Addr.add] using World.cell?_spot k0
        subst hspot
        refine Or.inr ⟨b, off, rfl, fun i q hq j z hj => ?_⟩
        have hi : i < len := by
          rcases Nat.lt_or_ge i len with c | c
          · exact c
          · simp [c] at hq
        simp [hi] at hq
        subst hq
        have k := (hfx i hi).2 j z hj
        have ea : ∀ j, (⟨b, off, none⟩ : Addr).add j = ⟨b, off + j, none⟩ := fun j => by
          unfold Addr.add; by_cases hj : j = 0 <;> simp [hj]
        rw [ea] at k
        rw [Nat.add_assoc]; exact k
theorem bytesjoinsT : Tryz.prog.bytesOf 135 = 16 := by kernel_rfl
theorem cellsjoinsT : Tryz.prog.cellsOf 135 = 2 := by kernel_rfl
set_option maxRecDepth 100000 in
theorem open_joinsT {H : Type} {enc : TypeId × Value → H} {W : World} {spare : Nat → Bool} {held : Bool} {fuel : Nat} {x : Value} {y : DataW H × List MemPlace}
    (hy : DataW.trod enc Tryz.prog W 0 spare held fuel 29 [x] = some y) (hsz : ∀ n ∈ y.1.weights Tryz.prog 29, n ≤ reachBytes) : ∃ l, RI 2 W x l := by
  rcases open_slice Tryz.underlying29 hy with ⟨hcs, _⟩ | ⟨a, len, cap, m, n, D, Pl, hcs, _, hl, hm, hmm, hx, hel⟩
  · simp at hcs
    subst hcs
    exact ⟨[], RI.nil _ _⟩
  · simp at hcs
    subst hcs
    have hlm : len ≤ m := by rw [hmm]; split <;> omega
    have hr := reachBytes_lt
    have hlen : len ≤ 140737488355328 := by
      have := hsz ((len + (m - len)) * 16) (by rw [hx]; simp [DataW.weights, Tryz.underlying29, bytesjoinsT])
      simp at hr; omega
    have each : ∀ i, i < len → ∃ q : List Int, (q.length = 2 ∧ ∀ z ∈ q, -9223372036854775808 ≤ z ∧ z ≤ 9223372036854775807) ∧ ∀ j z, q[j]? = some z → W.cell? (a.add (i * 2 + j)) = some (.int .i64 z) := by
      intro i hi
      obtain ⟨cs, h1, h2⟩ := hel i (by omega)
      rw [cellsjoinsT] at h1
      obtain ⟨_, hlen3, hcell⟩ := World.cells?_some h1
      obtain ⟨xs, n', _, _, _, hxl, hf⟩ := DataW.trod_struct Tryz.underlying135 h2
      match cs, hlen3 with
      | [v0, v1], _ =>
        match xs, hxl with
        | [x0, x1], _ =>
          have g0 := hf 0 _ rfl
          have g1 := hf 1 _ rfl
          simp [cellsI] at g0 g1
          obtain ⟨q0, e0, -, w0⟩ := DataW.trod_int Tryz.underlying3 g0
          obtain ⟨q1, e1, -, w1⟩ := DataW.trod_int Tryz.underlying3 g1
          simp at e0 e1
          subst e0 e1
          refine ⟨[q0, q1], ⟨rfl, fun z hz => ?_⟩, fun j z hj => ?_⟩
          · simp at hz
            rcases hz with rfl | rfl
            · exact bounds64 w0
            · exact bounds64 w1
          · match j, hj with
            | 0, hj => cases hj; have c0 := hcell 0 (by omega); rw [add_add] at c0; simpa using c0
            | 1, hj => cases hj; have c0 := hcell 1 (by omega); rw [add_add] at c0; simpa using c0
    obtain ⟨f, hfx⟩ := @choose_lt (List Int) ⟨[]⟩ len _ each
    refine ⟨(List.range len).map f, by simpa using hlen, ?_, some a, cap, by simp, ?_⟩
    · intro y hy
      obtain ⟨i, hi, rfl⟩ := List.mem_map.1 hy
      exact (hfx i (List.mem_range.1 hi)).1
    · rcases Nat.eq_zero_or_pos len with h0 | h0
      · subst h0; exact Or.inl rfl
      · obtain ⟨b, off, spot⟩ := a
        obtain ⟨z0, hz0⟩ : ∃ z, (f 0)[0]? = some z := ⟨_, List.getElem?_eq_getElem (by have := (hfx 0 h0).1.1; omega)⟩
        have k0 := (hfx 0 h0).2 0 z0 hz0
        have hspot : spot = none := by simpa [Addr.add] using World.cell?_spot k0
        subst hspot
        refine Or.inr ⟨b, off, rfl, fun i q hq j z hj => ?_⟩
        have hi : i < len := by
          rcases Nat.lt_or_ge i len with c | c
          · exact c
          · simp [c] at hq
        simp [hi] at hq
        subst hq
        have k := (hfx i hi).2 j z hj
        have ea : ∀ j, (⟨b, off, none⟩ : Addr).add j = ⟨b, off + j, none⟩ := fun j => by
          unfold Addr.add; by_cases hj : j = 0 <;> simp [hj]
        rw [ea] at k
        rw [Nat.add_assoc]; exact k
theorem cellsC : Tryz.prog.cellsOf 34 = 15 := by kernel_rfl
theorem bytesC : Tryz.prog.bytesOf 34 = 200 := by kernel_rfl
set_option maxRecDepth 100000 in
set_option maxHeartbeats 2000000 in
theorem open_cmT {H : Type} {enc : TypeId × Value → H} {W : World} {spare : Nat → Bool} {held : Bool} {fuel : Nat} {cs : List Value} {y : DataW H × List MemPlace}
    (hy : DataW.trod enc Tryz.prog W 0 spare held fuel 34 cs = some y) (hsz : ∀ n ∈ y.1.weights Tryz.prog 34, n ≤ reachBytes) : ∃ c x, cs = cmC c x ∧ CmR W c x := by
  obtain ⟨xs, n', _, hd, hl, hxl, hf⟩ := DataW.trod_struct Tryz.underlying34 hy
  rw [cellsC] at hl
  have iS : Tryz.prog.cellsOf 27 = 1 := by kernel_rfl
  have iB : Tryz.prog.cellsOf 4 = 1 := by kernel_rfl
  have iA : Tryz.prog.cellsOf 26 = 1 := by kernel_rfl
  have iQ : Tryz.prog.cellsOf 28 = 1 := by kernel_rfl
  have iJ : Tryz.prog.cellsOf 29 = 1 := by kernel_rfl
  have iT : Tryz.prog.cellsOf 32 = 1 := by kernel_rfl
  have iN : Tryz.prog.cellsOf 30 = 1 := by kernel_rfl
  match cs, hl with
  | [v0, v1, v2, v3, v4, v5, v6, v7, v8, v9, v10, v11, v12, v13, v14], _ =>
    match xs, hxl with
    | [x0, x1, x2, x3, x4, x5, x6, x7, x8, x9, x10, x11, x12, x13, x14], _ =>
      have g0 := hf 0 _ rfl
      have g1 := hf 1 _ rfl
      have g2 := hf 2 _ rfl
      have g3 := hf 3 _ rfl
      have g4 := hf 4 _ rfl
      have g5 := hf 5 _ rfl
      have g6 := hf 6 _ rfl
      have g7 := hf 7 _ rfl
      have g8 := hf 8 _ rfl
      have g9 := hf 9 _ rfl
      have g10 := hf 10 _ rfl
      have g11 := hf 11 _ rfl
      have g12 := hf 12 _ rfl
      have g13 := hf 13 _ rfl
      have g14 := hf 14 _ rfl
      simp [cellsI, iS, iB, iA, iQ, iJ, iT] at g0 g1 g2 g3 g4 g5 g6 g7 g8 g9 g10 g11 g12 g13 g14
      obtain ⟨q0, e0, -, w0⟩ := DataW.trod_int Tryz.underlying3 g0
      obtain ⟨q1, e1, -, w1⟩ := DataW.trod_int Tryz.underlying3 g1
      obtain ⟨q2, e2, -, w2⟩ := DataW.trod_int Tryz.underlying3 g2
      obtain ⟨q3, e3, -, w3⟩ := DataW.trod_int Tryz.underlying3 g3
      obtain ⟨q4, e4, -, w4⟩ := DataW.trod_int Tryz.underlying3 g4
      obtain ⟨q10, e10, -, w10⟩ := DataW.trod_int Tryz.underlying3 g10
      obtain ⟨q11, e11, -, w11⟩ := DataW.trod_int Tryz.underlying3 g11
      obtain ⟨q13, e13, -, w13⟩ := DataW.trod_int Tryz.underlying3 g13
      obtain ⟨q14, e14, -, w14⟩ := DataW.trod_int Tryz.underlying3 g14
      obtain ⟨q5, e5, -⟩ := DataW.trod_bool Tryz.underlying4 g5
      obtain ⟨z0, n0, hz0, -, hN⟩ := trod_struct1 Tryz.underlying32 g12
      simp [iN] at hN
      simp at e0 e1 e2 e3 e4 e10 e11 e13 e14 e5
      subst e0 e1 e2 e3 e4 e10 e11 e13 e14 e5
      obtain ⟨la, ha⟩ := open_addsT g6 (fun n hn => hsz n (by rw [hd]; simp [DataW.weights, DataW.weightsEach, Tryz.underlying34, hn]))
      obtain ⟨lr, hr, hrl⟩ := open_numsT g7 (fun n hn => hsz n (by rw [hd]; simp [DataW.weights, DataW.weightsEach, Tryz.underlying34, hn]))
      obtain ⟨lq, hq⟩ := open_sealsT g8 (fun n hn => hsz n (by rw [hd]; simp [DataW.weights, DataW.weightsEach, Tryz.underlying34, hn]))
      obtain ⟨lj, hj⟩ := open_joinsT g9 (fun n hn => hsz n (by rw [hd]; simp [DataW.weights, DataW.weightsEach, Tryz.underlying34, hn]))
      obtain ⟨T, hT⟩ := open_nodesT hN (fun n hn => hsz n (by rw [hd]; simp [DataW.weights, DataW.weightsEach, Tryz.underlying34]; simp [hz0, DataW.weights, DataW.weightsEach, Tryz.underlying32, hn]))
      exact ⟨⟨q0, q1, q2, q3, q4, q5, la, lr, lq, lj, q10, q11, T, q13, q14⟩, ⟨v6, v7, v8, v9, v12⟩, rfl, ha, hr, hrl, hq, hj, hT⟩
set_option maxRecDepth 100000 in
set_option maxHeartbeats 2000000 in
theorem open_cmsT {H : Type} {enc : TypeId × Value → H} {W : World} {spare : Nat → Bool} {held : Bool} {fuel : Nat} {x : Value} {y : DataW H × List MemPlace}
    (hy : DataW.trod enc Tryz.prog W 0 spare held fuel 93 [x] = some y) (hsz : ∀ n ∈ y.1.weights Tryz.prog 93, n ≤ reachBytes) : ∃ l, Cms W x l := by
  rcases open_slice Tryz.underlying93 hy with ⟨hcs, _⟩ | ⟨a, len, cap, m, n, D, Pl, hcs, _, hl, hm, hmm, hx, hel⟩
  · simp at hcs
    subst hcs
    exact ⟨[], by simp, none, 0, rfl, Or.inl rfl⟩
  · simp at hcs
    subst hcs
    have hlm : len ≤ m := by rw [hmm]; split <;> omega
    have hr := reachBytes_lt
    have hlen : len ≤ 140737488355328 := by
      have := hsz ((len + (m - len)) * 200) (by rw [hx]; simp [DataW.weights, Tryz.underlying93, bytesC])
      simp at hr; omega
    have each : ∀ i, i < len → ∃ q : Cm × Cv, CmR W q.1 q.2 ∧ ∀ j u, (cmC q.1 q.2)[j]? = some u → W.cell? (a.add (i * 15 + j)) = some u := by
      intro i hi
      obtain ⟨cs, h1, h2⟩ := hel i (by omega)
      rw [cellsC] at h1
      obtain ⟨_, hlen3, hcell⟩ := World.cells?_some h1
      obtain ⟨c, q, rfl, hR⟩ := open_cmT h2 (fun n hn => hsz n (by
        rw [hx]
        simp only [DataW.weights, Tryz.underlying93]
        exact List.mem_cons_of_mem _ (List.mem_append_left _ (mem_weightsAll (d := D i) (List.mem_map.2 ⟨i, List.mem_range.2 hi, rfl⟩) hn))))
      refine ⟨(c, q), hR, fun j u hj => ?_⟩
      have hjl : j < 15 := by have := (List.getElem?_eq_some_iff.1 hj).1; simpa [cmC] using this
      have c0 := hcell j (by omega)
      rw [add_add] at c0
      rw [c0]
      have := (List.getElem?_eq_some_iff.1 hj).2
      simpa using hj
    obtain ⟨f, hfx⟩ := @choose_lt (Cm × Cv) ⟨(⟨0, 0, 0, 0, 0, false, [], [], [], [], 0, 0, [], 0, 0⟩, ⟨undef, undef, undef, undef, undef⟩)⟩ len _ each
    refine ⟨(List.range len).map fun i => (f i).1, by simpa using hlen, some a, cap, by simp, ?_⟩
    rcases Nat.eq_zero_or_pos len with h0 | h0
    · subst h0; exact Or.inl rfl
    · obtain ⟨b, off, spot⟩ := a
      have k0 := (hfx 0 h0).2 0 _ rfl
      have hspot : spot = none := by simpa [Addr.add] using World.cell?_spot k0
      subst hspot
      refine Or.inr ⟨b, off, rfl, fun i c hc => ?_⟩
      have hi : i < len := by
        rcases Nat.lt_or_ge i len with q | q
        · exact q
        · simp [q] at hc
      simp [hi] at hc
      subst hc
      refine ⟨(f i).2, (hfx i hi).1, fun j u hj => ?_⟩
      have k := (hfx i hi).2 j u hj
      have ea : ∀ j, (⟨b, off, none⟩ : Addr).add j = ⟨b, off + j, none⟩ := fun j => by
        unfold Addr.add; by_cases hj : j = 0 <;> simp [hj]
      rw [ea] at k
      rw [Nat.add_assoc]; exact k
theorem cellsL : Tryz.prog.cellsOf 95 = 2 := by kernel_rfl
theorem bytesL : Tryz.prog.bytesOf 95 = 32 := by kernel_rfl
set_option maxRecDepth 100000 in
set_option maxHeartbeats 2000000 in
theorem open_logsT {H : Type} {enc : TypeId × Value → H} {W : World} {spare : Nat → Bool} {held : Bool} {fuel : Nat} {x : Value} {y : DataW H × List MemPlace}
    (hy : DataW.trod enc Tryz.prog W 0 spare held fuel 22 [x] = some y) (hsz : ∀ n ∈ y.1.weights Tryz.prog 22, n ≤ reachBytes) : ∃ l, Lgs W x l := by
  have iC : Tryz.prog.cellsOf 93 = 1 := by kernel_rfl
  rcases open_slice Tryz.underlying22 hy with ⟨hcs, _⟩ | ⟨a, len, cap, m, n, D, Pl, hcs, _, hl, hm, hmm, hx, hel⟩
  · simp at hcs
    subst hcs
    exact ⟨[], by simp, none, 0, rfl, Or.inl rfl⟩
  · simp at hcs
    subst hcs
    have hlm : len ≤ m := by rw [hmm]; split <;> omega
    have hr := reachBytes_lt
    have hlen : len ≤ 140737488355328 := by
      have := hsz ((len + (m - len)) * 32) (by rw [hx]; simp [DataW.weights, Tryz.underlying22, bytesL])
      simp at hr; omega
    have each : ∀ i, i < len → ∃ q : (Int × List Cm) × Value, Cms W q.2 q.1.2 ∧ W.cell? (a.add (i * 2)) = some (.int .i64 q.1.1) ∧ W.cell? (a.add (i * 2 + 1)) = some q.2 := by
      intro i hi
      obtain ⟨cs, h1, h2⟩ := hel i (by omega)
      rw [cellsL] at h1
      obtain ⟨_, hlen3, hcell⟩ := World.cells?_some h1
      obtain ⟨xs, n', _, hd, _, hxl, hf⟩ := DataW.trod_struct Tryz.underlying95 h2
      match cs, hlen3 with
      | [v0, v1], _ =>
        match xs, hxl with
        | [x0, x1], _ =>
          have g0 := hf 0 _ rfl
          have g1 := hf 1 _ rfl
          simp [cellsI, iC] at g0 g1
          obtain ⟨q0, e0, -, w0⟩ := DataW.trod_int Tryz.underlying3 g0
          simp at e0
          subst e0
          obtain ⟨l, hl⟩ := open_cmsT g1 (fun n hn => hsz n (by
            rw [hx]
            simp only [DataW.weights, Tryz.underlying22]
            refine List.mem_cons_of_mem _ (List.mem_append_left _ (mem_weightsAll (d := D i) (List.mem_map.2 ⟨i, List.mem_range.2 hi, rfl⟩) ?_))
            have hD : D i = .agg [x0.1, x1.1] := by simpa using congrArg Prod.fst hd
            rw [hD]
            simp [DataW.weights, DataW.weightsEach, Tryz.underlying95, hn]))
          have c0 := hcell 0 (by omega)
          have c1 := hcell 1 (by omega)
          rw [add_add] at c0 c1
          exact ⟨((q0, l), v1), hl, by simpa using c0, by simpa using c1⟩
    obtain ⟨f, hfx⟩ := @choose_lt ((Int × List Cm) × Value) ⟨((0, []), undef)⟩ len _ each
    refine ⟨(List.range len).map fun i => (f i).1, by simpa using hlen, some a, cap, by simp, ?_⟩
    rcases Nat.eq_zero_or_pos len with h0 | h0
    · subst h0; exact Or.inl rfl
    · obtain ⟨b, off, spot⟩ := a
      have k0 := (hfx 0 h0).2.1
      have hspot : spot = none := by simpa [Addr.add] using World.cell?_spot k0
      subst hspot
      refine Or.inr ⟨b, off, rfl, fun i c hc => ?_⟩
      have hi : i < len := by
        rcases Nat.lt_or_ge i len with q | q
        · exact q
        · simp [q] at hc
      simp [hi] at hc
      subst hc
      obtain ⟨h1, h2, h3⟩ := hfx i hi
      have ea : ∀ j, (⟨b, off, none⟩ : Addr).add j = ⟨b, off + j, none⟩ := fun j => by
        unfold Addr.add; by_cases hj : j = 0 <;> simp [hj]
      rw [ea] at h2 h3
      exact ⟨(f i).2, h1, h2, by rw [Nat.add_assoc]; exact h3⟩
end Go.Proofs.YtnfhbmlmemifjaaGreatDoor
