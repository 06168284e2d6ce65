/- Texts joined: PoFr0 PoFr1. -/
import Derived.Test.YtnimdnoemmodaaaRows
import Derived.Test.YtnimdnoemmodaaaZ03
import Derived.ProofKit
import Derived.OpenShut
import Derived.Lib.SmallJoins
import Derived.ChangeOld
import Derived.Deep.Slices
import Derived.SizedLaws
/- What the rows of layer 15 share. -/
namespace Go.Proofs.Ytnimdnoemmodaaa
open Go.ChangeShapes Go.WideShapes Go.ChangeAt Go.RowKit Go.Joins Go.Deep
theorem own : ownKnob Try.prog.godebug = none := by kernel_rfl
theorem laidOut : laidOutB Try.prog = true := by kernel_rfl
theorem bounds64 {a : Int} (h : (Lit.int .i64 a).wf = true) : -9223372036854775808 ≤ a ∧ a ≤ 9223372036854775807 := by
  simpa [Lit.wf, IntKind.min, IntKind.max, IntKind.signed, IntKind.bits] using h
theorem mem_weightsAll {H : Type} {P : Program} {e : TypeId} {d : DataW H} {n : Nat} : ∀ {l : List (DataW H)}, d ∈ l → n ∈ d.weights P e → n ∈ DataW.weightsAll P e l
  | [], h, _ => by cases h
  | x :: r, h, hn => by
    simp only [DataW.weightsAll, List.mem_append]
    rcases List.mem_cons.1 h with rfl | h
    · exact Or.inl hn
    · exact Or.inr (mem_weightsAll h hn)
theorem bytesN : Try.prog.bytesOf 87 = 48 := by kernel_rfl
theorem cellsN : Try.prog.cellsOf 87 = 4 := by kernel_rfl
theorem bytesI : Try.prog.bytesOf 3 = 8 := by kernel_rfl
theorem cellsI : Try.prog.cellsOf 3 = 1 := by kernel_rfl
theorem open_numsT {H : Type} {enc : TypeId × Value → H} {W : World} {spare : Nat → Bool} {held : Bool} {fuel : Nat} {x : Value} {y : DataW H × List MemPlace}
    (h : DataW.trod enc Try.prog W 0 spare held fuel 24 [x] = some y) (hsz : ∀ n ∈ y.1.weights Try.prog 24, n ≤ reachBytes) : ∃ l, Nums W x l ∧ l.length ≤ 140737488355328 := by
  rcases open_ints Try.underlying24 Try.underlying3 cellsI h with ⟨hcs, _⟩ | ⟨a, len, cap, zs, hcs, _, hl, hm, hzl, hx, hc, _⟩
  · simp at hcs; exact ⟨[], Or.inl ⟨rfl, none, 0, hcs, fun _ => rfl⟩, by simp⟩
  · simp at hcs
    subst hcs
    have hzlen : len ≤ zs.length := by rw [hzl]; split <;> omega
    have hlen : len ≤ 140737488355328 := by
      have := hsz ((len + (zs.length - len)) * 8) (by rw [hx]; simp [DataW.weights, Try.underlying24, bytesI, lits, hzlen])
      have hr := reachBytes_lt
      simp at hr; omega
    refine ⟨zs.take len, ?_, by simp; omega⟩
    have htl : (zs.take len).length = len := by simp; omega
    rcases Nat.eq_zero_or_pos len with h0 | h0
    · subst h0
      exact Or.inl ⟨by simp, some a, cap, rfl, fun h => by cases h⟩
    · obtain ⟨b, off, spot⟩ := a
      have k0 := hc 0 (by omega)
      have hspot : spot = none := by simpa [Addr.add] using World.cell?_spot k0
      subst hspot
      refine Or.inr ⟨b, off, cap, by rw [htl], by rw [htl]; exact hl, hm, fun j z hj => ?_⟩
      have hjl : j < len := by have := (List.getElem?_eq_some_iff.1 hj).1; omega
      have hcj := hc j (by omega)
      have ea : (⟨b, off, none⟩ : Addr).add j = ⟨b, off + j, none⟩ := by unfold Addr.add; by_cases q : j = 0 <;> simp [q]
      rw [ea] at hcj
      rw [List.getElem?_take_of_lt hjl] at hj
      rw [hcj, List.getD_eq_getElem?_getD, hj]; rfl
theorem trod_struct1 {H : Type} {enc : TypeId × Value → H} {P : Program} {w : World} {base : Nat} {spare : Nat → Bool} {held : Bool} {t : TypeId} {f0 : Field} {fuel : Nat} {cs : List Value} {x : DataW H × List MemPlace} (ht : P.underlying t = some (.struct #[f0])) (h : DataW.trod enc P w base spare held fuel t cs = some x) :
    ∃ y0 n, x.1 = .agg [y0.1] ∧ cs.length = P.cellsOf t ∧ DataW.trod enc P w base spare held n f0.type ((cs.drop f0.offset).take (P.cellsOf f0.type)) = some y0 := by
  obtain ⟨xs, n, _, rfl, hl, hlen, hf⟩ := DataW.trod_struct ht h
  match xs, hlen with
  | [y0], _ => exact ⟨y0, n, by simp, hl, by simpa using hf 0 f0 rfl⟩
theorem trod_struct4b {H : Type} {enc : TypeId × Value → H} {P : Program} {w : World} {base : Nat} {spare : Nat → Bool} {held : Bool} {t : TypeId} {f0 f1 f2 f3 : Field} {fuel : Nat} {cs : List Value} {x : DataW H × List MemPlace} (ht : P.underlying t = some (.struct #[f0, f1, f2, f3])) (h : DataW.trod enc P w base spare held fuel t cs = some x) :
    ∃ y0 y1 y2 y3 n, x.1 = .agg [y0.1, y1.1, y2.1, y3.1] ∧ cs.length = P.cellsOf t ∧ DataW.trod enc P w base spare held n f0.type ((cs.drop f0.offset).take (P.cellsOf f0.type)) = some y0 ∧
      DataW.trod enc P w base spare held n f1.type ((cs.drop f1.offset).take (P.cellsOf f1.type)) = some y1 ∧ DataW.trod enc P w base spare held n f2.type ((cs.drop f2.offset).take (P.cellsOf f2.type)) = some y2 ∧ DataW.trod enc P w base spare held n f3.type ((cs.drop f3.offset).take (P.cellsOf f3.type)) = some y3 := by
  obtain ⟨xs, n, _, rfl, hl, hlen, hf⟩ := DataW.trod_struct ht h
  match xs, hlen with
  | [y0, y1, y2, y3], _ => exact ⟨y0, y1, y2, y3, n, by simp, hl, by simpa using hf 0 f0 rfl, by simpa using hf 1 f1 rfl, by simpa using hf 2 f2 rfl, by simpa using hf 3 f3 rfl⟩
theorem choose_nd {N : Nat} {P : Nat → Nd → Value → Prop} (h : ∀ i, i < N → ∃ n u, P i n u) : ∃ (f : Nat → Nd) (g : Nat → Value), ∀ i, i < N → P i (f i) (g i) := by
  have h' : ∀ i, ∃ q : Nd × Value, i < N → P i q.1 q.2 := fun i => by
    by_cases c : i < N
    · obtain ⟨n, u, hh⟩ := h i c; exact ⟨(n, u), fun _ => hh⟩
    · exact ⟨(nd0, undef), fun q => absurd q c⟩
  exact ⟨fun i => (Classical.choose (h' i)).1, fun i => (Classical.choose (h' i)).2, fun i hi => Classical.choose_spec (h' i) hi⟩
end Go.Proofs.Ytnimdnoemmodaaa

/- Trees, rows of structs of numbers, commits and logs, opened off what a caller hands in. -/
namespace Go.Proofs.Ytnimdnoemmodaaa
open Go.ChangeShapes Go.WideShapes Go.ChangeAt Go.RowKit Go.Joins Go.Deep Go.Maps
set_option maxRecDepth 100000 in
theorem open_nodesT {H : Type} {enc : TypeId × Value → H} {W : World} {spare : Nat → Bool} {held : Bool} {fuel : Nat} {x : Value} {y : DataW H × List MemPlace}
    (hy : DataW.trod enc Try.prog W 0 spare held fuel 41 [x] = some y) (hszN : ∀ n ∈ y.1.weights Try.prog 41, n ≤ reachBytes) : ∃ T, Trd W x T := by
  rcases open_slice Try.underlying41 hy with ⟨hcs, _⟩ | ⟨a, len, cap, m, n, D, Pl, hcs, _, hl, hm, hmm, hx, hel⟩
  · simp at hcs
    exact ⟨[], ⟨by simp, by simp, Or.inl ⟨rfl, none, 0, hcs⟩⟩⟩
  · simp at hcs
    subst hcs
    have hlm : len ≤ m := by rw [hmm]; split <;> omega
    have hr := reachBytes_lt
    have hlen : len ≤ 140737488355328 := by
      have := hszN ((len + (m - len)) * 48) (by rw [hx]; simp [DataW.weights, Try.underlying41, bytesN])
      simp at hr; omega
    have each : ∀ i, i < len → ∃ (nn : Nd) (u : Value), (W.cell? (a.add (i * 4)) = some (.int .i64 nn.pub) ∧ W.cell? (a.add (i * 4 + 1)) = some (.int .i64 nn.mem) ∧ W.cell? (a.add (i * 4 + 2)) = some (.int .i64 nn.ep) ∧ W.cell? (a.add (i * 4 + 3)) = some u) ∧ Nums W u nn.un ∧ nn.un.length ≤ 140737488355328 := by
      intro i hi
      obtain ⟨cs', h1, h2⟩ := hel i (by omega)
      rw [cellsN] at h1
      obtain ⟨_, hlen4, hcell⟩ := World.cells?_some h1
      obtain ⟨z0, z1, z2, z3, n', hxy, _, g0, g1, g2, g3⟩ := trod_struct4b Try.underlying87 h2
      match cs', hlen4 with
      | [v0, v1, v2, v3], _ =>
        have i1 : Try.prog.cellsOf 3 = 1 := cellsI
        have i2 : Try.prog.cellsOf 24 = 1 := by kernel_rfl
        simp [i1, i2] at g0 g1 g2 g3
        obtain ⟨q0, e0, -, -⟩ := DataW.trod_int Try.underlying3 g0
        obtain ⟨q1, e1, -, -⟩ := DataW.trod_int Try.underlying3 g1
        obtain ⟨q2, e2, -, -⟩ := DataW.trod_int Try.underlying3 g2
        simp at e0 e1 e2
        subst e0 e1 e2
        have hsz3 : ∀ n ∈ z3.1.weights Try.prog 24, n ≤ reachBytes := fun n hn => hszN n (by
          rw [hx]
          simp only [DataW.weights, Try.underlying41]
          refine List.mem_cons_of_mem _ (List.mem_append_left _ (mem_weightsAll (d := D i) (List.mem_map.2 ⟨i, List.mem_range.2 hi, rfl⟩) ?_))
          have hD : D i = .agg [z0.1, z1.1, z2.1, z3.1] := hxy
          rw [hD]
          simp [DataW.weights, DataW.weightsEach, Try.underlying87, hn])
        obtain ⟨l, hl1, hl2⟩ := open_numsT g3 hsz3
        have c0 := hcell 0 (by omega)
        have c1 := hcell 1 (by omega)
        have c2 := hcell 2 (by omega)
        have c3 := hcell 3 (by omega)
        rw [add_add] at c0 c1 c2 c3
        exact ⟨⟨q0, q1, q2, l⟩, v3, ⟨by simpa using c0, by simpa using c1, by simpa using c2, by simpa using c3⟩, hl1, hl2⟩
    obtain ⟨f, g, hfx⟩ := choose_nd each
    refine ⟨(List.range len).map f, by simpa using hlen, ?_, ?_⟩
    · intro y hy
      obtain ⟨i, hi, rfl⟩ := List.mem_map.1 hy
      exact (hfx i (List.mem_range.1 hi)).2.2
    · rcases Nat.eq_zero_or_pos len with h0 | h0
      · subst h0; exact Or.inl ⟨rfl, some a, cap, rfl⟩
      · obtain ⟨b, off, spot⟩ := a
        have k0 := (hfx 0 h0).1.1
        have hspot : spot = none := by simpa [Addr.add] using World.cell?_spot k0
        subst hspot
        refine Or.inr ⟨b, off, cap, by simp, World.block_lt_of_cell? W _ (by simpa [Addr.add] using k0), fun i nn hnn => ?_⟩
        have hi : i < len := by
          rcases Nat.lt_or_ge i len with q | q
          · exact q
          · simp [q] at hnn
        simp [hi] at hnn
        subst hnn
        obtain ⟨⟨k0, k1, k2, k3⟩, k4, _⟩ := hfx i hi
        have ea : ∀ j, (⟨b, off, none⟩ : Addr).add j = ⟨b, off + j, none⟩ := fun j => by
          unfold Addr.add; by_cases hj : j = 0 <;> simp [hj]
        rw [ea] at k0 k1 k2 k3
        exact ⟨g i, ⟨k0, by rw [Nat.add_assoc]; exact k1, by rw [Nat.add_assoc]; exact k2, by rw [Nat.add_assoc]; exact k3⟩, k4⟩
theorem bytesaddsT : Try.prog.bytesOf 91 = 24 := by kernel_rfl
theorem cellsaddsT : Try.prog.cellsOf 91 = 3 := by kernel_rfl
set_option maxRecDepth 100000 in
theorem open_addsT {H : Type} {enc : TypeId × Value → H} {W : World} {spare : Nat → Bool} {held : Bool} {fuel : Nat} {x : Value} {y : DataW H × List MemPlace}
    (hy : DataW.trod enc Try.prog W 0 spare held fuel 38 [x] = some y) (hsz : ∀ n ∈ y.1.weights Try.prog 38, n ≤ reachBytes) : ∃ l, RI 3 W x l := by
  rcases open_slice Try.underlying38 hy with ⟨hcs, _⟩ | ⟨a, len, cap, m, n, D, Pl, hcs, _, hl, hm, hmm, hx, hel⟩
  · simp at hcs
    subst hcs
    exact ⟨[], RI.nil _ _⟩
  · simp at hcs
    subst hcs
    have hlm : len ≤ m := by rw [hmm]; split <;> omega
    have hr := reachBytes_lt
    have hlen : len ≤ 140737488355328 := by
      have := hsz ((len + (m - len)) * 24) (by rw [hx]; simp [DataW.weights, Try.underlying38, bytesaddsT])
      simp at hr; omega
    have each : ∀ i, i < len → ∃ q : List Int, (q.length = 3 ∧ ∀ z ∈ q, -9223372036854775808 ≤ z ∧ z ≤ 9223372036854775807) ∧ ∀ j z, q[j]? = some z → W.cell? (a.add (i * 3 + j)) = some (.int .i64 z) := by
      intro i hi
      obtain ⟨cs, h1, h2⟩ := hel i (by omega)
      rw [cellsaddsT] at h1
      obtain ⟨_, hlen3, hcell⟩ := World.cells?_some h1
      obtain ⟨xs, n', _, _, _, hxl, hf⟩ := DataW.trod_struct Try.underlying91 h2
      match cs, hlen3 with
      | [v0, v1, v2], _ =>
        match xs, hxl with
        | [x0, x1, x2], _ =>
          have g0 := hf 0 _ rfl
          have g1 := hf 1 _ rfl
          have g2 := hf 2 _ rfl
          simp [cellsI] at g0 g1 g2
          obtain ⟨q0, e0, -, w0⟩ := DataW.trod_int Try.underlying3 g0
          obtain ⟨q1, e1, -, w1⟩ := DataW.trod_int Try.underlying3 g1
          obtain ⟨q2, e2, -, w2⟩ := DataW.trod_int Try.underlying3 g2
          simp at e0 e1 e2
          subst e0 e1 e2
          refine ⟨[q0, q1, q2], ⟨rfl, fun z hz => ?_⟩, fun j z hj => ?_⟩
          · simp at hz
            rcases hz with rfl | rfl | rfl
            · exact bounds64 w0
            · exact bounds64 w1
            · exact bounds64 w2
          · match j, hj with
            | 0, hj => cases hj; have c0 := hcell 0 (by omega); rw [add_add] at c0; simpa using c0
            | 1, hj => cases hj; have c0 := hcell 1 (by omega); rw [add_add] at c0; simpa using c0
            | 2, hj => cases hj; have c0 := hcell 2 (by omega); rw [add_add] at c0; simpa using c0
    obtain ⟨f, hfx⟩ := @choose_lt (List Int) ⟨[]⟩ len _ each
    refine ⟨(List.range len).map f, by simpa using hlen, ?_, some a, cap, by simp, ?_⟩
    · intro y hy
      obtain ⟨i, hi, rfl⟩ := List.mem_map.1 hy
      exact (hfx i (List.mem_range.1 hi)).1
    · rcases Nat.eq_zero_or_pos len with h0 | h0
      · subst h0; exact Or.inl rfl
      · obtain ⟨b, off, spot⟩ := a
        obtain ⟨z0, hz0⟩ : ∃ z, (f 0)[0]? = some z := ⟨_, List.getElem?_eq_getElem (by have := (hfx 0 h0).1.1; omega)⟩
        have k0 := (hfx 0 h0).2 0 z0 hz0
        have hspot : spot = none := by simpa [Addr.add] using World.cell?_spot k0
        subst hspot
        refine Or.inr ⟨b, off, rfl, fun i q hq j z hj => ?_⟩
        have hi : i < len := by
          rcases Nat.lt_or_ge i len with c | c
          · exact c
          · simp [c] at hq
        simp [hi] at hq
        subst hq
        have k := (hfx i hi).2 j z hj
        have ea : ∀ j, (⟨b, off, none⟩ : Addr).add j = ⟨b, off + j, none⟩ := fun j => by
          unfold Addr.add; by_cases hj : j = 0 <;> simp [hj]
        rw [ea] at k
        rw [Nat.add_assoc]; exact k
theorem bytessealsT : Try.prog.bytesOf 95 = 24 := by kernel_rfl
theorem cellssealsT : Try.prog.cellsOf 95 = 3 := by kernel_rfl
set_option maxRecDepth 100000 in
theorem open_sealsT {H : Type} {enc : TypeId × Value → H} {W : World} {spare : Nat → Bool} {held : Bool} {fuel : Nat} {x : Value} {y : DataW H × List MemPlace}
    (hy : DataW.trod enc Try.prog W 0 spare held fuel 39 [x] = some y) (hsz : ∀ n ∈ y.1.weights Try.prog 39, n ≤ reachBytes) : ∃ l, RI 3 W x l := by
  rcases open_slice Try.underlying39 hy with ⟨hcs, _⟩ | ⟨a, len, cap, m, n, D, Pl, hcs, _, hl, hm, hmm, hx, hel⟩
  · simp at hcs
    subst hcs
    exact ⟨[], RI.nil _ _⟩
  · simp at hcs
    subst hcs
    have hlm : len ≤ m := by rw [hmm]; split <;> omega
    have hr := reachBytes_lt
    have hlen : len ≤ 140737488355328 := by
      have := hsz ((len + (m - len)) * 24) (by rw [hx]; simp [DataW.weights, Try.underlying39, bytessealsT])
      simp at hr; omega
    have each : ∀ i, i < len → ∃ q : List Int, (q.length = 3 ∧ ∀ z ∈ q, -9223372036854775808 ≤ z ∧ z ≤ 9223372036854775807) ∧ ∀ j z, q[j]? = some z → W.cell? (a.add (i * 3 + j)) = some (.int .i64 z) := by
      intro i hi
      obtain ⟨cs, h1, h2⟩ := hel i (by omega)
      rw [cellssealsT] at h1
      obtain ⟨_, hlen3, hcell⟩ := World.cells?_some h1
      obtain ⟨xs, n', _, _, _, hxl, hf⟩ := DataW.trod_struct Try.underlying95 h2
      match cs, hlen3 with
      | [v0, v1, v2], _ =>
        match xs, hxl with
        | [x0, x1, x2], _ =>
          have g0 := hf 0 _ rfl
          have g1 := hf 1 _ rfl
          have g2 := hf 2 _ rfl
          simp [cellsI] at g0 g1 g2
          obtain ⟨q0, e0, -, w0⟩ := DataW.trod_int Try.underlying3 g0
          obtain ⟨q1, e1, -, w1⟩ := DataW.trod_int Try.underlying3 g1
          obtain ⟨q2, e2, -, w2⟩ := DataW.trod_int Try.underlying3 g2
          simp at e0 e1 e2
          subst e0 e1 e2
          refine ⟨[q0, q1, q2], ⟨rfl, fun z hz => ?_⟩, fun j z hj => ?_⟩
          · simp at hz
            rcases hz with rfl | rfl | rfl
            · exact bounds64 w0
            · exact bounds64 w1
            · exact bounds64 w2
          · match j, hj with
            | 0, hj => cases hj; have c0 := hcell 0 (by omega); rw [add_add] at c0; simpa using c0
            | 1, hj => cases hj; have c0 := hcell 1 (by omega); rw [add_add] at c0; simpa using c0
            | 2, hj => cases hj; have c0 := hcell 2 (by omega); rw [add_add] at c0; simpa using c0
    obtain ⟨f, hfx⟩ := @choose_lt (List Int) ⟨[]⟩ len _ each
    refine ⟨(List.range len).map f, by simpa using hlen, ?_, some a, cap, by simp, ?_⟩
    · intro y hy
      obtain ⟨i, hi, rfl⟩ := List.mem_map.1 hy
      exact (hfx i (List.mem_range.1 hi)).1
    · rcases Nat.eq_zero_or_pos len with h0 | h0
      · subst h0; exact Or.inl rfl
      · obtain ⟨b, off, spot⟩ := a
        obtain ⟨z0, hz0⟩ : ∃ z, (f 0)[0]? = some z := ⟨_, List.getElem?_eq_getElem (by have := (hfx 0 h0).1.1; omega)⟩
        have k0 := (hfx 0 h0).2 0 z0 hz0
        have hspot : spot = none := by simpa [Addr.add] using World.cell?_spot k0
        subst hspot
        refine Or.inr ⟨b, off, rfl, fun i q hq j z hj => ?_⟩
        have hi : i < len := by
          rcases Nat.lt_or_ge i len with c | c
          · exact c
          · simp [c] at hq
        simp [hi] at hq
        subst hq
        have k := (hfx i hi).2 j z hj
        have ea : ∀ j, (⟨b, off, none⟩ : Addr).add j = ⟨b, off + j, none⟩ := fun j => by
          unfold Addr.add; by_cases hj : j = 0 <;> simp [hj]
        rw [ea] at k
        rw [Nat.add_assoc]; exact k
theorem bytesjoinsT : Try.prog.bytesOf 98 = 16 := by kernel_rfl
theorem cellsjoinsT : Try.prog.cellsOf 98 = 2 := by kernel_rfl
set_option maxRecDepth 100000 in
theorem open_joinsT {H : Type} {enc : TypeId × Value → H} {W : World} {spare : Nat → Bool} {held : Bool} {fuel : Nat} {x : Value} {y : DataW H × List MemPlace}
    (hy : DataW.trod enc Try.prog W 0 spare held fuel 40 [x] = some y) (hsz : ∀ n ∈ y.1.weights Try.prog 40, n ≤ reachBytes) : ∃ l, RI 2 W x l := by
  rcases open_slice Try.underlying40 hy with ⟨hcs, _⟩ | ⟨a, len, cap, m, n, D, Pl, hcs, _, hl, hm, hmm, hx, hel⟩
  · simp at hcs
    subst hcs
    exact ⟨[], RI.nil _ _⟩
  · simp at hcs
    subst hcs
    have hlm : len ≤ m := by rw [hmm]; split <;> omega
    have hr := reachBytes_lt
    have hlen : len ≤ 140737488355328 := by
      have := hsz ((len + (m - len)) * 16) (by rw [hx]; simp [DataW.weights, Try.underlying40, bytesjoinsT])
      simp at hr; omega
    have each : ∀ i, i < len → ∃ q : List Int, (q.length = 2 ∧ ∀ z ∈ q, -9223372036854775808 ≤ z ∧ z ≤ 9223372036854775807) ∧ ∀ j z, q[j]? = some z → W.cell? (a.add (i * 2 + j)) = some (.int .i64 z) := by
      intro i hi
      obtain ⟨cs, h1, h2⟩ := hel i (by omega)
      rw [cellsjoinsT] at h1
      obtain ⟨_, hlen3, hcell⟩ := World.cells?_some h1
      obtain ⟨xs, n', _, _, _, hxl, hf⟩ := DataW.trod_struct Try.underlying98 h2
      match cs, hlen3 with
      | [v0, v1], _ =>
        match xs, hxl with
        | [x0, x1], _ =>
          have g0 := hf 0 _ rfl
          have g1 := hf 1 _ rfl
          simp [cellsI] at g0 g1
          obtain ⟨q0, e0, -, w0⟩ := DataW.trod_int Try.underlying3 g0
          obtain ⟨q1, e1, -, w1⟩ := DataW.trod_int Try.underlying3 g1
          simp at e0 e1
          subst e0 e1
          refine ⟨[q0, q1], ⟨rfl, fun z hz => ?_⟩, fun j z hj => ?_⟩
          · simp at hz
            rcases hz with rfl | rfl
            · exact bounds64 w0
            · exact bounds64 w1
          · match j, hj with
            | 0, hj => cases hj; have c0 := hcell 0 (by omega); rw [add_add] at c0; simpa using c0
            | 1, hj => cases hj; have c0 := hcell 1 (by omega); rw [add_add] at c0; simpa using c0
    obtain ⟨f, hfx⟩ := @choose_lt (List Int) ⟨[]⟩ len _ each
    refine ⟨(List.range len).map f, by simpa using hlen, ?_, some a, cap, by simp, ?_⟩
    · intro y hy
      obtain ⟨i, hi, rfl⟩ := List.mem_map.1 hy
      exact (hfx i (List.mem_range.1 hi)).1
    · rcases Nat.eq_zero_or_pos len with h0 | h0
      · subst h0; exact Or.inl rfl
      · obtain ⟨b, off, spot⟩ := a
        obtain ⟨z0, hz0⟩ : ∃ z, (f 0)[0]? = some z := ⟨_, List.getElem?_eq_getElem (by have := (hfx 0 h0).1.1; omega)⟩
        have k0 := (hfx 0 h0).2 0 z0 hz0
        have hspot : spot = none := by simpa [Addr.add] using World.cell?_spot k0
        subst hspot
        refine Or.inr ⟨b, off, rfl, fun i q hq j z hj => ?_⟩
        have hi : i < len := by
          rcases Nat.lt_or_ge i len with c | c
          · exact c
          · simp [c] at hq
        simp [hi] at hq
        subst hq
        have k := (hfx i hi).2 j z hj
        have ea : ∀ j, (⟨b, off, none⟩ : Addr).add j = ⟨b, off + j, none⟩ := fun j => by
          unfold Addr.add; by_cases hj : j = 0 <;> simp [hj]
        rw [ea] at k
        rw [Nat.add_assoc]; exact k
theorem cellsC : Try.prog.cellsOf 45 = 15 := by kernel_rfl
set_option maxRecDepth 100000 in
set_option maxHeartbeats 2000000 in
theorem open_cmT {H : Type} {enc : TypeId × Value → H} {W : World} {spare : Nat → Bool} {held : Bool} {fuel : Nat} {cs : List Value} {y : DataW H × List MemPlace}
    (hy : DataW.trod enc Try.prog W 0 spare held fuel 45 cs = some y) (hsz : ∀ n ∈ y.1.weights Try.prog 45, n ≤ reachBytes) : ∃ c x, cs = cmC c x ∧ CmR W c x := by
  obtain ⟨xs, n', _, hd, hl, hxl, hf⟩ := DataW.trod_struct Try.underlying45 hy
  rw [cellsC] at hl
  have iS : Try.prog.cellsOf 24 = 1 := by kernel_rfl
  have iB : Try.prog.cellsOf 4 = 1 := by kernel_rfl
  have iA : Try.prog.cellsOf 38 = 1 := by kernel_rfl
  have iQ : Try.prog.cellsOf 39 = 1 := by kernel_rfl
  have iJ : Try.prog.cellsOf 40 = 1 := by kernel_rfl
  have iT : Try.prog.cellsOf 43 = 1 := by kernel_rfl
  have iN : Try.prog.cellsOf 41 = 1 := by kernel_rfl
  match cs, hl with
  | [v0, v1, v2, v3, v4, v5, v6, v7, v8, v9, v10, v11, v12, v13, v14], _ =>
    match xs, hxl with
    | [x0, x1, x2, x3, x4, x5, x6, x7, x8, x9, x10, x11, x12, x13, x14], _ =>
      have g0 := hf 0 _ rfl
      have g1 := hf 1 _ rfl
      have g2 := hf 2 _ rfl
      have g3 := hf 3 _ rfl
      have g4 := hf 4 _ rfl
      have g5 := hf 5 _ rfl
      have g6 := hf 6 _ rfl
      have g7 := hf 7 _ rfl
      have g8 := hf 8 _ rfl
      have g9 := hf 9 _ rfl
      have g10 := hf 10 _ rfl
      have g11 := hf 11 _ rfl
      have g12 := hf 12 _ rfl
      have g13 := hf 13 _ rfl
      have g14 := hf 14 _ rfl
      simp [cellsI, iS, iB, iA, iQ, iJ, iT] at g0 g1 g2 g3 g4 g5 g6 g7 g8 g9 g10 g11 g12 g13 g14
      obtain ⟨q0, e0, -, w0⟩ := DataW.trod_int Try.underlying3 g0
      obtain ⟨q1, e1, -, w1⟩ := DataW.trod_int Try.underlying3 g1
      obtain ⟨q2, e2, -, w2⟩ := DataW.trod_int Try.underlying3 g2
      obtain ⟨q3, e3, -, w3⟩ := DataW.trod_int Try.underlying3 g3
      obtain ⟨q4, e4, -, w4⟩ := DataW.trod_int Try.underlying3 g4
      obtain ⟨q10, e10, -, w10⟩ := DataW.trod_int Try.underlying3 g10
      obtain ⟨q11, e11, -, w11⟩ := DataW.trod_int Try.underlying3 g11
      obtain ⟨q13, e13, -, w13⟩ := DataW.trod_int Try.underlying3 g13
      obtain ⟨q14, e14, -, w14⟩ := DataW.trod_int Try.underlying3 g14
      obtain ⟨q5, e5, -⟩ := DataW.trod_bool Try.underlying4 g5
      obtain ⟨z0, n0, hz0, -, hN⟩ := trod_struct1 Try.underlying43 g12
      simp [iN] at hN
      simp at e0 e1 e2 e3 e4 e10 e11 e13 e14 e5
      subst e0 e1 e2 e3 e4 e10 e11 e13 e14 e5
      obtain ⟨la, ha⟩ := open_addsT g6 (fun n hn => hsz n (by rw [hd]; simp [DataW.weights, DataW.weightsEach, Try.underlying45, hn]))
      obtain ⟨lr, hr, hrl⟩ := open_numsT g7 (fun n hn => hsz n (by rw [hd]; simp [DataW.weights, DataW.weightsEach, Try.underlying45, hn]))
      obtain ⟨lq, hq⟩ := open_sealsT g8 (fun n hn => hsz n (by rw [hd]; simp [DataW.weights, DataW.weightsEach, Try.underlying45, hn]))
      obtain ⟨lj, hj⟩ := open_joinsT g9 (fun n hn => hsz n (by rw [hd]; simp [DataW.weights, DataW.weightsEach, Try.underlying45, hn]))
      obtain ⟨T, hT⟩ := open_nodesT hN (fun n hn => hsz n (by rw [hd]; simp [DataW.weights, DataW.weightsEach, Try.underlying45]; simp [hz0, DataW.weights, DataW.weightsEach, Try.underlying43, hn]))
      exact ⟨⟨q0, q1, q2, q3, q4, q5, la, lr, lq, lj, q10, q11, T, q13, q14⟩, ⟨v6, v7, v8, v9, v12⟩, rfl, ha, hr, hrl, hq, hj, hT⟩
end Go.Proofs.Ytnimdnoemmodaaa
