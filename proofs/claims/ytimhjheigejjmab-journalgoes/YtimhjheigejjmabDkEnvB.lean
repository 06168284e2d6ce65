/- What the laws of layer 5 share: answers of plain disks. -/
import Derived.Test.YtimhjheigejjmabDkEnv
namespace Go.Proofs.Ytimhjheigejjmab
open Go.RowKit Go.Maps

theorem synced_read {S : DS} {f : Nat → ByteArray} (hu : S.up = true) (hs : S.since = []) (hb : S.base = f) {k : Nat} (hk : k < S.N) : S.read (k : Int) = (f k, 0) := by
  have : ¬ ((k : Int) < 0 ∨ (S.N : Int) ≤ (k : Int)) := by omega
  simp only [DS.read, hu, Bool.true_eq_false, if_false, this, DS.now, hs, cur_nil, hb, Int.toNat_natCast]
theorem now_read {S : DS} (hu : S.up = true) {k : Nat} (hk : k < S.N) : S.read (k : Int) = (S.now k, 0) := by
  have : ¬ ((k : Int) < 0 ∨ (S.N : Int) ≤ (k : Int)) := by omega
  simp only [DS.read, hu, Bool.true_eq_false, if_false, this, Int.toNat_natCast]
theorem DS.sync_plain {S : DS} (hu : S.up = true) (hc : S.cut = none) : S.sync = (S.settle.did, 0) := by simp [DS.sync, hu, DS.come, hc]
theorem DS.crash_plain {S : DS} (hu : S.up = true) (bits : Int) : S.crash bits = (S.fall bits, 0) := by simp [DS.crash, hu]
theorem DS.start_down {S : DS} (hu : S.up = false) : S.start = ({ S with up := true, cut := none }, 0) := by simp [DS.start, hu]
theorem Try.infoStrF : (Try.prog.info? 9).map (fun i => (i.zero, i.size, i.bytes)) = some (some (.string ByteArray.empty), 1, 16) := by kernel_rfl
theorem info_str : ∃ i, Try.prog.info? 9 = some i ∧ i.zero = some (.string ByteArray.empty) ∧ i.size = 1 ∧ i.bytes = 16 := by
  have h := Try.infoStrF
  cases e : Try.prog.info? 9 with
  | none => rw [e] at h; cases h
  | some i => rw [e] at h; simp at h; exact ⟨i, rfl, h.1, h.2.1, h.2.2⟩
theorem cell_one5 (w : World) (v : Value) (t : TypeId) : (w.alloc (.cells #[v] t)).cell? ⟨w.heap.size, 0, none⟩ = some v := by simp [go_sem]
theorem cell_one_new5 (w : World) (v : Value) (t : TypeId) : ∀ j u, [v][j]? = some u → (w.alloc (.cells #[v] t)).cell? ((⟨w.heap.size, 0, none⟩ : Addr).add j) = some u := by
  intro j u hj
  cases j with
  | zero => simp at hj; subst hj; simp [go_sem, Addr.add]
  | succ j => simp at hj
theorem own_alloc {w : World} {e : TypeId} {c : Nat} {v : Value} {n : Nat} {xs : List Value} (h : w.ownsRow 0 e c v n xs) (o : Obj) : (w.alloc o).ownsRow 0 e c v n xs :=
  own_keep h (fun k hk => Below.heap_alloc _ _ _ (World.ownsRow.lt h k hk).2)
/-- A text comes behind a row of texts. -/
theorem wpList_push {w0 W : World} {d : Nat} {S : DS} {rs : List Res} {v : Value} {l : List ByteArray} {s : ByteArray} {ops : Array Oper} {rest : List Oper} {o : Oper} {a : Act} {Q : Exit → Act → World → Prop} (hgd : o.guard = none) (p x : Operand)
    (ho : o.op = .call { callee := .builtin .append, args := #[p, x], argTypes := #[29, 29] }) (hs : a.eval p = v) (hx : a.eval x = .slice (some ⟨W.heap.size, 0, none⟩) 1 1) (h : ED w0 W d S (resT v l :: rs)) (hl : l.length ≤ 1000000)
    (hk : ∀ v' w', ED w0 w' d S (resT v' (l ++ [s]) :: rs) → wpList Try.prog ops Q rest (a.put o.dst v') w') : wpList Try.prog ops Q (o :: rest) a (W.alloc (.cells #[.string s] 9)) := by
  obtain ⟨i0, hi, hz0, hz1, hz2⟩ := info_str
  have hrow := h.row
  refine wpList_append_own_at _ hgd p x 29 ho 0 9 i0 (.string ByteArray.empty) 1 16 Try.underlying29 hi hz0 hz1 hz2 rfl (by decide) v l.length (l.map Value.string) hs (own_alloc hrow _) ⟨W.heap.size, 0, none⟩ 1 1 [.string s] hx rfl (cell_one_new5 _ _ _) (by simp [Value.oneCell']) (by unfold maxLen; omega) (by omega) (Nat.zero_le _) ?_
  intro v' w' h1 h2 _ h4
  refine hk v' w' (h.push h1 h2 ?_)
  rcases h4 with c | c
  · exact Or.inl c
  · exact Or.inr (by rw [c]; simp)

end Go.Proofs.Ytimhjheigejjmab
