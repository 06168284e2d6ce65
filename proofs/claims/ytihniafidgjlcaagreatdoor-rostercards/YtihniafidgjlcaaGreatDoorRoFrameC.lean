/- Cards, opened off what a caller hands in. mkRoFrameC.py writes it. -/
import Derived.Test.YtihniafidgjlcaaGreatDoorTrFrameU
import Derived.Test.YtihniafidgjlcaaGreatDoorZ04
namespace Go.Proofs.YtihniafidgjlcaaGreatDoor
open Go.ChangeShapes Go.WideShapes Go.ChangeAt Go.RowKit Go.Joins Go.Deep Go.Maps
theorem bytescardsT : Tryz.prog.bytesOf 44 = 24 := by kernel_rfl
theorem cellscardsT : Tryz.prog.cellsOf 44 = 3 := by kernel_rfl
set_option maxRecDepth 100000 in
theorem open_cardsT {H : Type} {enc : TypeId × Value → H} {W : World} {spare : Nat → Bool} {held : Bool} {fuel : Nat} {x : Value} {y : DataW H × List MemPlace}
    (hy : DataW.trod enc Tryz.prog W 0 spare held fuel 56 [x] = some y) (hsz : ∀ n ∈ y.1.weights Tryz.prog 56, n ≤ reachBytes) : ∃ l, RI 3 W x l := by
  rcases open_slice Tryz.underlying56 hy with ⟨hcs, _⟩ | ⟨a, len, cap, m, n, D, Pl, hcs, _, hl, hm, hmm, hx, hel⟩
  · simp at hcs
    subst hcs
    exact ⟨[], RI.nil _ _⟩
  · simp at hcs
    subst hcs
    have hlm : len ≤ m := by rw [hmm]; split <;> omega
    have hr := reachBytes_lt
    have hlen : len ≤ 140737488355328 := by
      have := hsz ((len + (m - len)) * 24) (by rw [hx]; simp [DataW.weights, Tryz.underlying56, bytescardsT])
      simp at hr; omega
    have each : ∀ i, i < len → ∃ q : List Int, (q.length = 3 ∧ ∀ z ∈ q, -9223372036854775808 ≤ z ∧ z ≤ 9223372036854775807) ∧ ∀ j z, q[j]? = some z → W.cell? (a.add (i * 3 + j)) = some (.int .i64 z) := by
      intro i hi
      obtain ⟨cs, h1, h2⟩ := hel i (by omega)
      rw [cellscardsT] at h1
      obtain ⟨_, hlen3, hcell⟩ := World.cells?_some h1
      obtain ⟨xs, n', _, _, _, hxl, hf⟩ := DataW.trod_struct Tryz.underlying44 h2
      match cs, hlen3 with
      | [v0, v1, v2], _ =>
        match xs, hxl with
        | [x0, x1, x2], _ =>
          have g0 := hf 0 _ rfl
          have g1 := hf 1 _ rfl
          have g2 := hf 2 _ rfl
          simp [cellsI] at g0 g1 g2
          obtain ⟨q0, e0, -, w0⟩ := DataW.trod_int Tryz.underlying3 g0
          obtain ⟨q1, e1, -, w1⟩ := DataW.trod_int Tryz.underlying3 g1
          obtain ⟨q2, e2, -, w2⟩ := DataW.trod_int Tryz.underlying3 g2
          simp at e0 e1 e2
          subst e0 e1 e2
          refine ⟨[q0, q1, q2], ⟨rfl, fun z hz => ?_⟩, fun j z hj => ?_⟩
          · simp at hz
            rcases hz with rfl | rfl | rfl
            · exact bounds64 w0
            · exact bounds64 w1
            · exact bounds64 w2
          · match j, hj with
            | 0, hj => cases hj; have c0 := hcell 0 (by omega); rw [add_add] at c0; simpa using c0
            | 1, hj => cases hj; have c0 := hcell 1 (by omega); rw [add_add] at c0; simpa using c0
            | 2, hj => cases hj; have c0 := hcell 2 (by omega); rw [add_add] at c0; simpa using c0
    obtain ⟨f, hfx⟩ := @choose_lt (List Int) ⟨[]⟩ len _ each
    refine ⟨(List.range len).map f, by simpa using hlen, ?_, some a, cap, by simp, ?_⟩
    · intro y hy
      obtain ⟨i, hi, rfl⟩ := List.mem_map.1 hy
      exact (hfx i (List.mem_range.1 hi)).1
    · rcases Nat.eq_zero_or_pos len with h0 | h0
      · subst h0; exact Or.inl rfl
      · obtain ⟨b, off, spot⟩ := a
        obtain ⟨z0, hz0⟩ : ∃ z, (f 0)[0]? = some z := ⟨_, List.getElem?_eq_getElem (by have := (hfx 0 h0).1.1; omega)⟩
        have k0 := (hfx 0 h0).2 0 z0 hz0
        have hspot : spot = none := by simpa [Addr.add] using World.cell?_spot k0
        subst hspot
        refine Or.inr ⟨b, off, rfl, fun i q hq j z hj => ?_⟩
        have hi : i < len := by
          rcases Nat.lt_or_ge i len with c | c
          · exact c
          · simp [c] at hq
        simp [hi] at hq
        subst hq
        have k := (hfx i hi).2 j z hj
        have ea : ∀ j, (⟨b, off, none⟩ : Addr).add j = ⟨b, off + j, none⟩ := fun j => by
          unfold Addr.add; by_cases hj : j = 0 <;> simp [hj]
        rw [ea] at k
        rw [Nat.add_assoc]; exact k
set_option maxRecDepth 100000 in
theorem open_card {H : Type} {enc : TypeId × Value → H} {W : World} {spare : Nat → Bool} {held : Bool} {r : Reach} {b0 : Nat} {v : Value} {d : DataW H} {p : List MemPlace}
    (hval : Value.okWide Tryz.prog W r b0 44 v) (h : DataW.Trod enc Tryz.prog W 0 spare held 44 v d p) : ∃ m e q : Int, v = .agg #[.int .i64 m, .int .i64 e, .int .i64 q] ∧ ∀ z ∈ [m, e, q], -9223372036854775808 ≤ z ∧ z ≤ 9223372036854775807 := by
  obtain ⟨v0, v1, v2, y0, y1, y2, n, rfl, _, _, g0, g1, g2⟩ := open_agg3 Tryz.underlying44 (by kernel_rfl) (by kernel_rfl) hval h
  obtain ⟨q0, e0, -, w0⟩ := DataW.trod_int Tryz.underlying3 g0
  obtain ⟨q1, e1, -, w1⟩ := DataW.trod_int Tryz.underlying3 g1
  obtain ⟨q2, e2, -, w2⟩ := DataW.trod_int Tryz.underlying3 g2
  simp at e0 e1 e2
  subst e0 e1 e2
  refine ⟨q0, q1, q2, rfl, fun z hz => ?_⟩
  simp at hz
  rcases hz with rfl | rfl | rfl
  · exact bounds64 w0
  · exact bounds64 w1
  · exact bounds64 w2
end Go.Proofs.YtihniafidgjlcaaGreatDoor
