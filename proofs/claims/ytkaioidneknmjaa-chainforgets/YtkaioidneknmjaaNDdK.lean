/- A row of the call's own, and numbers behind it that stand anywhere. -/
import Derived.Test.YtkaioidneknmjaaZ10
import Derived.Laws.AppendOwnNone
namespace Go.Proofs.Ytkaioidneknmjaa.Tn
open Go.RowKit Go.Maps

theorem run_append_owned_none' {P : Program} {w : World} (base : Nat) (t ty e : TypeId) (i : TypeInfo) (size : Nat) (ht : P.underlying t = some (.slice e)) (hi : P.info? e = some i)
    (v : Value) (n c : Nat) (xs : List Value) (hown : w.ownsRow base e size v n xs) : (Builtin.append_ #[t, t] ty #[v, .slice none 0 c]).run P w = .ok v w := by
  rcases hown.2 with ⟨rfl, rfl⟩ | ⟨g, cap, cur, rfl, _, _, hnc, _⟩
  · simp [Builtin.append_, run_underlying ht, Go.sizeOf, typeInfo, hi, Builtin.lenOf, Builtin.firstCells]
  · simp [Builtin.append_, run_underlying ht, Go.sizeOf, typeInfo, hi, Builtin.lenOf, Builtin.firstCells, hnc, storeCells]
theorem wpList_append_own_none' {P : Program} {w : World} {ops : Array Oper} {rest : List Oper} {o : Oper} {a : Act} {Q : Exit → Act → World → Prop} (hgd : o.guard = none) (s x : Operand) (t : TypeId)
    (ho : o.op = .call { callee := .builtin .append, args := #[s, x], argTypes := #[t, t] })
    (base : Nat) (e : TypeId) (i : TypeInfo) (size : Nat) (ht : P.underlying t = some (.slice e)) (hi : P.info? e = some i)
    (v : Value) (n c : Nat) (xs : List Value) (hs : a.eval s = v) (hown : w.ownsRow base e size v n xs) (hx : a.eval x = .slice none 0 c)
    (h : wpList P ops Q rest (a.put o.dst v) w) : wpList P ops Q (o :: rest) a w := by
  refine wpList_plain hgd fun K hK => ?_
  have hrun := run_append_owned_none' (P := P) (w := w) base t o.type e i size ht hi v n c xs hown
  unfold Oper.wp
  simp [execOp, ho, resolve, invoke, builtin, hs, hx, hrun, Result.andThen]
  exact hK _ _ h
theorem wpList_joinN {w : World} {ops : Array Oper} {rest : List Oper} {o : Oper} {a : Act} {Q : Exit → Act → World → Prop} (hgd : o.guard = none) (s x : Operand)
    (ho : o.op = .call { callee := .builtin .append, args := #[s, x], argTypes := #[37, 37] })
    (v u : Value) (l l' : List Nat) (hs : a.eval s = v) (hown : w.ownsRow 0 3 1 v l.length (l.map (fun m => .int .i64 ((m : Nat) : Int)))) (hx : a.eval x = u) (hu : NIs w u (l'.map fun (m : Nat) => (m : Int))) (hlen : l.length + l'.length ≤ 100000)
    (h : ∀ v' w', w'.ownsRow 0 3 1 v' (l ++ l').length ((l ++ l').map (fun m => .int .i64 ((m : Nat) : Int))) → w.grownBy w' v.ownBlock → (v'.ownBlock = v.ownBlock ∨ v'.ownBlock = some w.heap.size) → wpList Try.prog ops Q rest (a.put o.dst v') w') : wpList Try.prog ops Q (o :: rest) a w := by
  obtain ⟨i0, hi, hz0, hz1, hz2⟩ := info_parts Try.infoInt
  obtain ⟨ad, cap, rfl, _, _, hc⟩ := hu
  have hll : (l'.map fun (m : Nat) => (m : Int)).length = l'.length := by simp
  rw [hll] at hx
  cases ad with
  | none =>
    have h0 : l' = [] := by
      rcases hc with c | ⟨g, o, c, _⟩
      · simpa using c
      · cases c
    subst h0
    refine wpList_append_own_none' hgd s x 37 ho 0 3 i0 1 Try.underlying37 hi v l.length cap _ hs hown hx ?_
    exact h v w (by simpa using hown) ⟨rfl, rfl, rfl, Nat.le_refl _, fun _ _ _ => rfl⟩ (Or.inl rfl)
  | some ad =>
    refine wpList_append_own_at _ hgd s x 37 ho 0 3 i0 (.int .i64 0) 1 8 Try.underlying37 hi hz0 hz1 hz2 rfl (by decide) v l.length _ hs hown ad l'.length cap (l'.map (fun m => .int .i64 ((m : Nat) : Int))) hx (by simp) ?_ ?_ ?_ ?_ (Nat.zero_le _) ?_
    · intro j y hj
      rcases hc with c | ⟨g, o, c, hc⟩
      · have : l' = [] := by simpa using c
        subst this; simp at hj
      · simp at c; subst c
        simp only [List.getElem?_map, Option.map_eq_some_iff] at hj
        obtain ⟨m, hm, rfl⟩ := hj
        have := hc j (m : Int) (by simp [hm])
        have e : (⟨g, o, none⟩ : Addr).add j = ⟨g, o + j, none⟩ := by unfold Addr.add; by_cases hz : j = 0 <;> simp [hz]
        rw [e]; exact this
    · intro y hy
      obtain ⟨z, _, rfl⟩ := List.mem_map.1 hy
      rfl
    · unfold maxLen; omega
    · omega
    · intro v' w' h1 h2 _ h3
      exact h v' w' (by rw [List.length_append, List.map_append]; exact h1) h2 h3

/-- A new row in the place of the old one. -/
theorem EN.fresh {w W W' : World} {ka b : Nat} {sv : Value} {mb rb : Nat} {rv : Value} {L R : List Tm} {A : Nat → Prop} {v v' : Value} {l l' : List Nat} (h : EN w W ka b sv mb rb rv L R A v l) (hb : Below W.heap.size W W') (hr : NRow 0 W' v' l') (hp : ∀ k, v'.ownBlock = some k → W.heap.size ≤ k) : EN w W' ka b sv mb rb rv L R A v' l' :=
  h.to ⟨hr, (Fr.ofBelow hb).mono (fun _ _ c => by cases c), fun k hk => Or.inr (hp k hk)⟩

end Go.Proofs.Ytkaioidneknmjaa.Tn
