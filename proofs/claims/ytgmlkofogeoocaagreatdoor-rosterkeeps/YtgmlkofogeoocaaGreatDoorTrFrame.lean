/- What the rows of layer 8 share: the table of math/bits, as the program's text lays it; trees that came in. -/
import Derived.Test.YtgmlkofogeoocaaGreatDoorRows
import Derived.Test.YtgmlkofogeoocaaGreatDoorZ03
import Derived.ProofKit
import Derived.LaidMore
import Derived.OpenShut
import Derived.Stop.Joined
import Derived.Lib.LaidTab
import Derived.Lib.SmallJoins
import Derived.ChangeOld
import Derived.Deep.Slices
import Derived.SizedLaws
namespace Go.Proofs.YtgmlkofogeoocaaGreatDoor
open Go.ChangeShapes Go.WideShapes Go.ChangeAt Go.RowKit Go.Joins Go.Deep
theorem own : ownKnob Tryz.prog.godebug = none := by kernel_rfl
theorem laidOut : laidOutB Tryz.prog = true := by kernel_rfl
theorem bounds64 {a : Int} (h : (Lit.int .i64 a).wf = true) : -9223372036854775808 ≤ a ∧ a ≤ 9223372036854775807 := by
  simpa [Lit.wf, IntKind.min, IntKind.max, IntKind.signed, IntKind.bits] using h
def laidTab : List (String × DataW Unit) := [("math/bits.deBruijn64tab", Rows.laid_math_bits_deBruijn64tab)]
theorem gTab : Tryz.prog.globalNamed "math/bits.deBruijn64tab" = some 0 := by kernel_rfl
theorem tTab : (Tryz.prog.globals[0]?).map (·.type) = some 156 := by kernel_rfl
theorem door_met (os : Os) (args : Array Value) : laidMetH Tryz.prog laidTab ((World.doorLaid Tryz.prog 14 os).forCall (fun _ _ => 0) ⟨#[], args, []⟩).memory :=
  laidMetH_of_parts3 (fuel := 8) (laidMet_of_run' 8 (by kernel_rfl) (by kernel_rfl)) (by kernel_rfl) (by kernel_rfl)
theorem tab_of_laid {W : World} (h : laidMetH Tryz.prog laidTab W) : Tab W := by
  rw [MakeChecks.laidMetH_plain _ _ _ (by kernel_rfl)] at h
  have c1 : Tryz.prog.cellsOf 5 = 1 := by kernel_rfl
  have c2 : Tryz.prog.cellsOf 156 = 64 := by kernel_rfl
  have h2 : laidMet Tryz.prog (("math/bits.deBruijn64tab", Lib.tabData .u8 (Lib.deBruijn64tab.map fun (n : Nat) => (n : Int))) :: []) W := h
  have ht := Lib.tabIs_of_head gTab tTab Tryz.underlying156 Tryz.underlying5 c1 c2 h2
  intro j hj
  have := ht.cell gTab j (by simpa using hj)
  rw [this]
  simp [List.getD, List.getElem?_map, List.getElem?_eq_getElem hj]
theorem mem_weightsAll {H : Type} {P : Program} {e : TypeId} {d : DataW H} {n : Nat} : ∀ {l : List (DataW H)}, d ∈ l → n ∈ d.weights P e → n ∈ DataW.weightsAll P e l
  | [], h, _ => by cases h
  | x :: r, h, hn => by
    simp only [DataW.weightsAll, List.mem_append]
    rcases List.mem_cons.1 h with rfl | h
    · exact Or.inl hn
    · exact Or.inr (mem_weightsAll h hn)
theorem bytesN : Tryz.prog.bytesOf 57 = 48 := by kernel_rfl
theorem cellsN : Tryz.prog.cellsOf 57 = 4 := by kernel_rfl
theorem bytesI : Tryz.prog.bytesOf 3 = 8 := by kernel_rfl
theorem cellsI : Tryz.prog.cellsOf 3 = 1 := by kernel_rfl
theorem open_numsT {H : Type} {enc : TypeId × Value → H} {W : World} {spare : Nat → Bool} {held : Bool} {fuel : Nat} {x : Value} {y : DataW H × List MemPlace}
    (h : DataW.trod enc Tryz.prog W 0 spare held fuel 38 [x] = some y) (hsz : ∀ n ∈ y.1.weights Tryz.prog 38, n ≤ reachBytes) : ∃ l, Nums W x l ∧ l.length ≤ 140737488355328 := by
  rcases open_ints Tryz.underlying38 Tryz.underlying3 cellsI h with ⟨hcs, _⟩ | ⟨a, len, cap, zs, hcs, _, hl, hm, hzl, hx, hc, _⟩
  · simp at hcs; exact ⟨[], Or.inl ⟨rfl, none, 0, hcs, fun _ => rfl⟩, by simp⟩
  · simp at hcs
    subst hcs
    have hzlen : len ≤ zs.length := by rw [hzl]; split <;> omega
    have hlen : len ≤ 140737488355328 := by
      have := hsz ((len + (zs.length - len)) * 8) (by rw [hx]; simp [DataW.weights, Tryz.underlying38, bytesI, lits, hzlen])
      have hr := reachBytes_lt
      simp at hr; omega
    refine ⟨zs.take len, ?_, by simp; omega⟩
    have htl : (zs.take len).length = len := by simp; omega
    rcases Nat.eq_zero_or_pos len with h0 | h0
    · subst h0
      exact Or.inl ⟨by simp, some a, cap, rfl, fun h => by cases h⟩
    · obtain ⟨b, off, spot⟩ := a
      have k0 := hc 0 (by omega)
      have hspot : spot = none := by simpa [Addr.add] using World.cell?_spot k0
      subst hspot
      refine Or.inr ⟨b, off, cap, by rw [htl], by rw [htl]; exact hl, hm, fun j z hj => ?_⟩
      have hjl : j < len := by have := (List.getElem?_eq_some_iff.1 hj).1; omega
      have hcj := hc j (by omega)
      have ea : (⟨b, off, none⟩ : Addr).add j = ⟨b, off + j, none⟩ := by unfold Addr.add; by_cases q : j = 0 <;> simp [q]
      rw [ea] at hcj
      rw [List.getElem?_take_of_lt hjl] at hj
      rw [hcj, List.getD_eq_getElem?_getD, hj]; rfl
theorem trod_struct1 {H : Type} {enc : TypeId × Value → H} {P : Program} {w : World} {base : Nat} {spare : Nat → Bool} {held : Bool} {t : TypeId} {f0 : Field} {fuel : Nat} {cs : List Value} {x : DataW H × List MemPlace} (ht : P.underlying t = some (.struct #[f0])) (h : DataW.trod enc P w base spare held fuel t cs = some x) :
    ∃ y0 n, x.1 = .agg [y0.1] ∧ cs.length = P.cellsOf t ∧ DataW.trod enc P w base spare held n f0.type ((cs.drop f0.offset).take (P.cellsOf f0.type)) = some y0 := by
  obtain ⟨xs, n, _, rfl, hl, hlen, hf⟩ := DataW.trod_struct ht h
  match xs, hlen with
  | [y0], _ => exact ⟨y0, n, by simp, hl, by simpa using hf 0 f0 rfl⟩
theorem trod_struct4b {H : Type} {enc : TypeId × Value → H} {P : Program} {w : World} {base : Nat} {spare : Nat → Bool} {held : Bool} {t : TypeId} {f0 f1 f2 f3 : Field} {fuel : Nat} {cs : List Value} {x : DataW H × List MemPlace} (ht : P.underlying t = some (.struct #[f0, f1, f2, f3])) (h : DataW.trod enc P w base spare held fuel t cs = some x) :
    ∃ y0 y1 y2 y3 n, x.1 = .agg [y0.1, y1.1, y2.1, y3.1] ∧ cs.length = P.cellsOf t ∧ DataW.trod enc P w base spare held n f0.type ((cs.drop f0.offset).take (P.cellsOf f0.type)) = some y0 ∧
      DataW.trod enc P w base spare held n f1.type ((cs.drop f1.offset).take (P.cellsOf f1.type)) = some y1 ∧ DataW.trod enc P w base spare held n f2.type ((cs.drop f2.offset).take (P.cellsOf f2.type)) = some y2 ∧ DataW.trod enc P w base spare held n f3.type ((cs.drop f3.offset).take (P.cellsOf f3.type)) = some y3 := by
  obtain ⟨xs, n, _, rfl, hl, hlen, hf⟩ := DataW.trod_struct ht h
  match xs, hlen with
  | [y0, y1, y2, y3], _ => exact ⟨y0, y1, y2, y3, n, by simp, hl, by simpa using hf 0 f0 rfl, by simpa using hf 1 f1 rfl, by simpa using hf 2 f2 rfl, by simpa using hf 3 f3 rfl⟩
theorem choose_nd {N : Nat} {P : Nat → Nd → Value → Prop} (h : ∀ i, i < N → ∃ n u, P i n u) : ∃ (f : Nat → Nd) (g : Nat → Value), ∀ i, i < N → P i (f i) (g i) := by
  have h' : ∀ i, ∃ q : Nd × Value, i < N → P i q.1 q.2 := fun i => by
    by_cases c : i < N
    · obtain ⟨n, u, hh⟩ := h i c; exact ⟨(n, u), fun _ => hh⟩
    · exact ⟨(nd0, undef), fun q => absurd q c⟩
  exact ⟨fun i => (Classical.choose (h' i)).1, fun i => (Classical.choose (h' i)).2, fun i hi => Classical.choose_spec (h' i) hi⟩
set_option maxRecDepth 100000 in
theorem open_tree {H : Type} {enc : TypeId × Value → H} {W : World} {spare : Nat → Bool} {held : Bool} {r : Reach} {b0 : Nat} {v : Value} {d : DataW H} {p : List MemPlace}
    (hval : Value.okWide Tryz.prog W r b0 30 v) (h : DataW.Trod enc Tryz.prog W 0 spare held 30 v d p) (hsz : ∀ n ∈ d.weights Tryz.prog 30, n ≤ reachBytes) : ∃ x T, v = .agg #[x] ∧ Trd W x T := by
  obtain ⟨cs, rfl, hcsz⟩ := okWide_struct Tryz.underlying30 hval
  have hC1 : Tryz.prog.cellsOf 30 = 1 := by kernel_rfl
  obtain ⟨x, rfl⟩ : ∃ x, cs = #[x] := by
    obtain ⟨l⟩ := cs
    match l, hcsz.trans hC1 with
    | [x], _ => exact ⟨x, rfl⟩
  obtain ⟨fuel, hf⟩ := h
  obtain ⟨y0, n0, hd0, _, hy0⟩ := trod_struct1 Tryz.underlying30 hf
  have hC2 : Tryz.prog.cellsOf 28 = 1 := by kernel_rfl
  simp [Value.cells, hC2] at hy0
  have hd : d = .agg [y0.1] := hd0
  have hszN : ∀ n ∈ y0.1.weights Tryz.prog 28, n ≤ reachBytes := fun n hn => hsz n (by rw [hd]; simp [DataW.weights, DataW.weightsEach, Tryz.underlying30, hn])
  refine ⟨x, ?_⟩
  rcases open_slice Tryz.underlying28 hy0 with ⟨hcs, _⟩ | ⟨a, len, cap, m, n, D, Pl, hcs, _, hl, hm, hmm, hx, hel⟩
  · simp at hcs
    exact ⟨[], rfl, ⟨by simp, by simp, Or.inl ⟨rfl, none, 0, hcs⟩⟩⟩
  · simp at hcs
    subst hcs
    have hlm : len ≤ m := by rw [hmm]; split <;> omega
    have hr := reachBytes_lt
    have hlen : len ≤ 140737488355328 := by
      have := hszN ((len + (m - len)) * 48) (by rw [hx]; simp [DataW.weights, Tryz.underlying28, bytesN])
      simp at hr; omega
    have each : ∀ i, i < len → ∃ (nn : Nd) (u : Value), (W.cell? (a.add (i * 4)) = some (.int .i64 nn.pub) ∧ W.cell? (a.add (i * 4 + 1)) = some (.int .i64 nn.mem) ∧ W.cell? (a.add (i * 4 + 2)) = some (.int .i64 nn.ep) ∧ W.cell? (a.add (i * 4 + 3)) = some u) ∧ Nums W u nn.un ∧ nn.un.length ≤ 140737488355328 := by
      intro i hi
      obtain ⟨cs', h1, h2⟩ := hel i (by omega)
      rw [cellsN] at h1
      obtain ⟨_, hlen4, hcell⟩ := World.cells?_some h1
      obtain ⟨z0, z1, z2, z3, n', hxy, _, g0, g1, g2, g3⟩ := trod_struct4b Tryz.underlying57 h2
      match cs', hlen4 with
      | [v0, v1, v2, v3], _ =>
        have i1 : Tryz.prog.cellsOf 3 = 1 := cellsI
        have i2 : Tryz.prog.cellsOf 38 = 1 := by kernel_rfl
        simp [i1, i2] at g0 g1 g2 g3
        obtain ⟨q0, e0, -, -⟩ := DataW.trod_int Tryz.underlying3 g0
        obtain ⟨q1, e1, -, -⟩ := DataW.trod_int Tryz.underlying3 g1
        obtain ⟨q2, e2, -, -⟩ := DataW.trod_int Tryz.underlying3 g2
        simp at e0 e1 e2
        subst e0 e1 e2
        have hsz3 : ∀ n ∈ z3.1.weights Tryz.prog 38, n ≤ reachBytes := fun n hn => hszN n (by
          rw [hx]
          simp only [DataW.weights, Tryz.underlying28]
          refine List.mem_cons_of_mem _ (List.mem_append_left _ (mem_weightsAll (d := D i) (List.mem_map.2 ⟨i, List.mem_range.2 hi, rfl⟩) ?_))
          have hD : D i = .agg [z0.1, z1.1, z2.1, z3.1] := hxy
          rw [hD]
          simp [DataW.weights, DataW.weightsEach, Tryz.underlying57, hn])
        obtain ⟨l, hl1, hl2⟩ := open_numsT g3 hsz3
        have c0 := hcell 0 (by omega)
        have c1 := hcell 1 (by omega)
        have c2 := hcell 2 (by omega)
        have c3 := hcell 3 (by omega)
        rw [add_add] at c0 c1 c2 c3
        exact ⟨⟨q0, q1, q2, l⟩, v3, ⟨by simpa using c0, by simpa using c1, by simpa using c2, by simpa using c3⟩, hl1, hl2⟩
    obtain ⟨f, g, hfx⟩ := choose_nd each
    refine ⟨(List.range len).map f, rfl, by simpa using hlen, ?_, ?_⟩
    · intro y hy
      obtain ⟨i, hi, rfl⟩ := List.mem_map.1 hy
      exact (hfx i (List.mem_range.1 hi)).2.2
    · rcases Nat.eq_zero_or_pos len with h0 | h0
      · subst h0; exact Or.inl ⟨rfl, some a, cap, rfl⟩
      · obtain ⟨b, off, spot⟩ := a
        have k0 := (hfx 0 h0).1.1
        have hspot : spot = none := by simpa [Addr.add] using World.cell?_spot k0
        subst hspot
        refine Or.inr ⟨b, off, cap, by simp, World.block_lt_of_cell? W _ (by simpa [Addr.add] using k0), fun i nn hnn => ?_⟩
        have hi : i < len := by
          rcases Nat.lt_or_ge i len with q | q
          · exact q
          · simp [q] at hnn
        simp [hi] at hnn
        subst hnn
        obtain ⟨⟨k0, k1, k2, k3⟩, k4, _⟩ := hfx i hi
        have ea : ∀ j, (⟨b, off, none⟩ : Addr).add j = ⟨b, off + j, none⟩ := fun j => by
          unfold Addr.add; by_cases hj : j = 0 <;> simp [hj]
        rw [ea] at k0 k1 k2 k3
        exact ⟨g i, ⟨k0, by rw [Nat.add_assoc]; exact k1, by rw [Nat.add_assoc]; exact k2, by rw [Nat.add_assoc]; exact k3⟩, k4⟩
end Go.Proofs.YtgmlkofogeoocaaGreatDoor
