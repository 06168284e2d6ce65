/- Those who come in, and what a seed is of, opened off what a caller hands in. -/
import Derived.Test.YtokdflbajnecpaaNTmFrameN
import Derived.Test.YtokdflbajnecpaaAcW
namespace Go.Proofs.Ytokdflbajnecpaa.Tn.Ax
open Go.ChangeShapes Go.WideShapes Go.ChangeAt Go.RowKit Go.Joins Go.Deep

theorem bytesAdd : Try.prog.bytesOf 65 = 24 := by kernel_rfl
set_option maxRecDepth 100000 in
theorem open_adds {H : Type} {enc : TypeId × Value → H} {W : World} {spare : Nat → Bool} {held : Bool} {a : Option Addr} {len cap : Nat} {d : DataW H} {p : List MemPlace}
    (h : DataW.Trod enc Try.prog W 0 spare held 23 (.slice a len cap) d p) (hsz : ∀ n ∈ d.weights Try.prog 23, n ≤ reachBytes) : ∃ l, l.length = len ∧ Ads W (.slice a len cap) l := by
  obtain ⟨fuel, hf⟩ := h
  rcases open_slice Try.underlying23 hf with ⟨hcs, _⟩ | ⟨x, l, c, m, n, D, Pl, hcs, _, hl, hm, hmm, hx, hel⟩
  · simp [Value.cells] at hcs
    obtain ⟨rfl, rfl, rfl⟩ := hcs
    exact ⟨[], rfl, ⟨none, 0, rfl, by simp, by simp, Or.inl rfl⟩⟩
  · simp [Value.cells] at hcs
    obtain ⟨rfl, rfl, rfl⟩ := hcs
    simp only [Prod.mk.injEq] at hx
    obtain ⟨hd, _⟩ := hx
    have hlm : len ≤ m := by rw [hmm]; split <;> omega
    have each : ∀ i, i < len → ∃ y : Ad, y.ok ∧ W.cell? (x.add (i * 3)) = some (.int .i64 y.m) ∧ W.cell? (x.add (i * 3 + 1)) = some (.int .i64 y.e) ∧ W.cell? (x.add (i * 3 + 2)) = some (.int .i64 y.p) := by
      intro i hi
      obtain ⟨cs, h1, h2⟩ := hel i (by omega)
      rw [Try.cellsAdd] at h1
      obtain ⟨_, hlen, hcell⟩ := World.cells?_some h1
      obtain ⟨y0, y1, y2, n', hxy, _, g0, g1, g2⟩ := trod_struct3 Try.underlying65 h2
      match cs, hlen with
      | [v0, v1, v2], _ =>
        have i2 : Try.prog.cellsOf 3 = 1 := by kernel_rfl
        simp [i2] at g0 g1 g2
        obtain ⟨q0, e0, _, w0⟩ := DataW.trod_int Try.underlying3 g0
        obtain ⟨q1, e1, _, w1⟩ := DataW.trod_int Try.underlying3 g1
        obtain ⟨q2, e2, _, w2⟩ := DataW.trod_int Try.underlying3 g2
        simp at e0 e1 e2
        subst e0 e1 e2
        have c0 := hcell 0 (by omega)
        have c1 := hcell 1 (by omega)
        have c2 := hcell 2 (by omega)
        rw [add_add] at c0 c1 c2
        exact ⟨⟨q0, q1, q2⟩, ⟨bounds64 w0, bounds64 w1, bounds64 w2⟩, by simpa using c0, by simpa using c1, by simpa using c2⟩
    have hlen : len ≤ 140737488355328 := by
      have := hsz ((len + (m - len)) * 24) (by
        rw [hd]; simp [DataW.weights, Try.underlying23, bytesAdd])
      have hr := reachBytes_lt
      simp at hr; omega
    obtain ⟨f, hfx⟩ := @choose_lt Ad ⟨⟨0, 0, 0⟩⟩ len _ each
    refine ⟨(List.range len).map f, by simp, ⟨some x, cap, by simp, by simpa using hlen, ?_, ?_⟩⟩
    · intro y hy
      obtain ⟨i, hi, rfl⟩ := List.mem_map.1 hy
      exact (hfx i (List.mem_range.1 hi)).1
    · rcases Nat.eq_zero_or_pos len with h0 | h0
      · subst h0; exact Or.inl rfl
      · obtain ⟨b, off, spot⟩ := x
        have k0 := (hfx 0 h0).2.1
        have hspot : spot = none := by simpa [Addr.add] using World.cell?_spot k0
        subst hspot
        refine Or.inr ⟨b, off, rfl, fun i y hy => ?_⟩
        have hi : i < len := by
          rcases Nat.lt_or_ge i len with q | q
          · exact q
          · simp [q] at hy
        simp [hi] at hy
        subst hy
        obtain ⟨_, k0, k1, k2⟩ := hfx i hi
        have ea : ∀ j, (⟨b, off, none⟩ : Addr).add j = ⟨b, off + j, none⟩ := fun j => by
          unfold Addr.add; by_cases hj : j = 0 <;> simp [hj]
        rw [ea] at k0 k1 k2
        exact ⟨k0, by rw [Nat.add_assoc]; exact k1, by rw [Nat.add_assoc]; exact k2⟩

set_option maxRecDepth 100000 in
theorem open_commit {H : Type} {enc : TypeId × Value → H} {W : World} {spare : Nat → Bool} {held : Bool} {r : Reach} {b0 : Nat} {v : Value} {d : DataW H} {p : List MemPlace}
    (hval : Value.okWide Try.prog W r b0 52 v) (h : DataW.Trod enc Try.prog W 0 spare held 52 v d p) (hsz : ∀ n ∈ d.weights Try.prog 52, n ≤ reachBytes) :
    ∃ g e q : Int, i64r g ∧ i64r e ∧ i64r q ∧ ∃ a cap l, v = .agg #[.int .i64 g, .int .i64 e, .int .i64 q, .slice a l.length cap] ∧ NIs W (.slice a l.length cap) l := by
  obtain ⟨v0, v1, v2, v3, y0, y1, y2, y3, n, rfl, hd, _, g0, g1, g2, g3⟩ := open_agg4 Try.underlying52 (by kernel_rfl) (by kernel_rfl) hval h
  obtain ⟨q0, e0, _, w0⟩ := DataW.trod_int Try.underlying3 g0
  obtain ⟨q1, e1, _, w1⟩ := DataW.trod_int Try.underlying3 g1
  obtain ⟨q2, e2, _, w2⟩ := DataW.trod_int Try.underlying3 g2
  simp at e0 e1 e2
  subst e0 e1 e2
  obtain ⟨a, len, cap, rfl⟩ : ∃ a len cap, v3 = .slice a len cap := by
    rcases open_slice Try.underlying24 g3 with ⟨hcs, _⟩ | ⟨x, l, c, m, n, D, Pl, hcs, _⟩
    · simp at hcs; exact ⟨none, 0, 0, hcs⟩
    · simp at hcs; exact ⟨some x, l, c, hcs⟩
  have hN : DataW.Trod enc Try.prog W 0 spare held 24 (.slice a len cap) y3.1 y3.2 := ⟨n, g3⟩
  obtain ⟨l, rfl, hl⟩ := open_nums hN (fun x hx => hsz x (by rw [hd]; simp [DataW.weights, DataW.weightsEach, Try.underlying52, hx]))
  exact ⟨q0, q1, q2, bounds64 w0, bounds64 w1, bounds64 w2, a, cap, l, rfl, hl⟩
end Go.Proofs.Ytokdflbajnecpaa.Tn.Ax
