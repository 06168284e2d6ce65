/- The append of one row of numbers to another, as a law of the walk. -/
import Derived.Test.YtaanacnloljlmaaGreatDoorZ02
import Derived.Laws.AppendOwnNone
namespace Go.Proofs.YtaanacnloljlmaaGreatDoor
open Go.RowKit

theorem wpList_join {w : World} {ops : Array Oper} {rest : List Oper} {o : Oper} {a : Act} {Q : Exit → Act → World → Prop} (hgd : o.guard = none) (s x : Operand)
    (ho : o.op = .call { callee := .builtin .append, args := #[s, x], argTypes := #[31, 31] })
    (base b' : Nat) (v u : Value) (l l' : List Int) (hs : a.eval s = v) (hown : Ints base w v l) (hx : a.eval x = u) (hu : Ints b' w u l') (hlen : l.length + l'.length ≤ 100000) (hbase : base ≤ w.heap.size)
    (h : ∀ v' w', Ints base w' v' (l ++ l') → Below base w w' → wpList Tryz.prog ops Q rest (a.put o.dst v') w') : wpList Tryz.prog ops Q (o :: rest) a w := by
  obtain ⟨i0, hi, hz0, hz1, hz2⟩ := info_parts Tryz.infoInt
  rcases hu.2 with ⟨rfl, h0⟩ | ⟨g, cap, cur, rfl, _⟩
  · obtain rfl := List.length_eq_zero_iff.1 h0
    refine wpList_append_own_none hgd s x 31 ho base 3 i0 1 Tryz.underlying31 hi v l.length _ hs hown hx ?_
    have := h v w (by simpa using hown) (Below.refl _ _)
    exact this
  · refine wpList_append_own _ hgd s x 31 ho base 3 i0 (.int .i64 0) 1 8 Tryz.underlying31 hi hz0 hz1 hz2 rfl (by decide) v l.length _ hs hown ⟨g, 0, none⟩ l'.length cap (l'.map I64) hx (by simp) (World.ownsRow.cells hu rfl) ?_ ?_ ?_ hbase ?_
    · intro y hy
      obtain ⟨z, _, rfl⟩ := List.mem_map.1 hy
      rfl
    · unfold maxLen; omega
    · omega
    · intro v' w' h1 h2 _
      refine h v' w' ?_ ((Below.refl base w).grown h2 hbase (fun k hk => (World.ownsRow.lt hown k hk).1))
      simpa [Ints] using h1

theorem one_own (w : World) (a : Int) : Ints w.heap.size (w.alloc (.cells #[.int .i64 a] 3)) (.slice (some ⟨w.heap.size, 0, none⟩) 1 1) [a] :=
  ⟨rfl, Or.inr ⟨w.heap.size, 1, #[.int .i64 a], rfl, Nat.le_refl _, heap_alloc_new w _, Nat.le_refl _, by unfold maxLen; omega, rfl, rfl⟩⟩
theorem Ints.mono {B B' : Nat} {w : World} {v : Value} {l : List Int} (h : Ints B w v l) (hb : B' ≤ B) : Ints B' w v l := by
  refine ⟨h.1, ?_⟩
  rcases h.2 with h | ⟨g, cap, cur, hv, h0, r⟩
  · exact Or.inl h
  · exact Or.inr ⟨g, cap, cur, hv, Nat.le_trans hb h0, r⟩

end Go.Proofs.YtaanacnloljlmaaGreatDoor
