/- Copies of lists of those who come in, with marks behind them: TwinAdds, LeftAdds, SameAdds. -/
import Derived.Test.YtokdflbajnecpaaAcU
namespace Go.Proofs.Ytokdflbajnecpaa.Tn.Ax
open Go.RowKit Go.Maps

def adC (a : Ad) : List Value := [.int .i64 a.m, .int .i64 a.e, .int .i64 a.p]
def ad0 : Ad := ⟨0, 0, 0⟩
def mkA (n : Nat) : Ad := ⟨mk n, 0, 0⟩
def twA (l : List Ad) (x y : Ad) : Array Value := (l.flatMap adC ++ (adC x ++ adC y)).toArray
theorem adC_len (l : List Ad) : (l.flatMap adC).length = l.length * 3 := by
  induction l with
  | nil => rfl
  | cons a r ih => simp [List.flatMap_cons, adC, ih]; omega
theorem adC_get (l : List Ad) (i : Nat) (a : Ad) (h : l[i]? = some a) : (l.flatMap adC)[i * 3]? = some (.int .i64 a.m) ∧ (l.flatMap adC)[i * 3 + 1]? = some (.int .i64 a.e) ∧ (l.flatMap adC)[i * 3 + 2]? = some (.int .i64 a.p) := by
  induction l generalizing i with
  | nil => simp at h
  | cons x r ih =>
    cases i with
    | zero => simp at h; subst h; simp [List.flatMap_cons, adC]
    | succ j =>
      rw [List.getElem?_cons_succ] at h
      obtain ⟨h1, h2, h3⟩ := ih j h
      have e0 : (j + 1) * 3 = j * 3 + 3 := by omega
      rw [List.flatMap_cons, e0]
      exact ⟨by rw [List.getElem?_append_right (by simp [adC])]; simpa [adC] using h1,
        by rw [List.getElem?_append_right (by simp [adC])]; simp only [adC, List.length_cons, List.length_nil]; rw [show j * 3 + 3 + 1 - 3 = j * 3 + 1 by omega]; exact h2,
        by rw [List.getElem?_append_right (by simp [adC])]; simp only [adC, List.length_cons, List.length_nil]; rw [show j * 3 + 3 + 2 - 3 = j * 3 + 2 by omega]; exact h3⟩
theorem twA_flat (l : List Ad) (x y : Ad) : twA l x y = ((l ++ [x, y]).flatMap adC).toArray := by simp [twA, List.flatMap_append, List.flatMap_cons]
theorem twA_at {w : World} {g : Nat} {l : List Ad} {x y : Ad} {t : TypeId} (h : w.heap[g]? = some (.cells (twA l x y) t (0, 0))) {i : Nat} {a : Ad} (hi : (l ++ [x, y])[i]? = some a) : AAt w g (i * 3) a := by
  rw [twA_flat] at h
  obtain ⟨h1, h2, h3⟩ := adC_get _ i a hi
  exact ⟨blk_cell h (by simpa using h1), blk_cell h (by simpa using h2), blk_cell h (by simpa using h3)⟩
theorem twA_set1 {w : World} {g : Nat} {l : List Ad} {x y : Ad} {t : TypeId} (h : w.heap[g]? = some (.cells (twA l x y) t (0, 0))) (m : Ad) : (((w.setCell ⟨g, l.length * 3, none⟩ (.int .i64 m.m)).setCell ⟨g, l.length * 3 + 1, none⟩ (.int .i64 m.e)).setCell ⟨g, l.length * 3 + 2, none⟩ (.int .i64 m.p)).heap[g]? = some (.cells (twA l m y) t (0, 0)) := by
  rw [poke_blk (poke_blk (poke_blk h _) _) _]
  congr 2
  apply Array.toList_inj.1
  have hl := adC_len l
  simp [twA, List.set_append_right, hl, adC]
theorem twA_set2 {w : World} {g : Nat} {l : List Ad} {x y : Ad} {t : TypeId} (h : w.heap[g]? = some (.cells (twA l x y) t (0, 0))) (m : Ad) : (((w.setCell ⟨g, (l.length + 1) * 3, none⟩ (.int .i64 m.m)).setCell ⟨g, (l.length + 1) * 3 + 1, none⟩ (.int .i64 m.e)).setCell ⟨g, (l.length + 1) * 3 + 2, none⟩ (.int .i64 m.p)).heap[g]? = some (.cells (twA l x m) t (0, 0)) := by
  rw [poke_blk (poke_blk (poke_blk h _) _) _]
  congr 2
  apply Array.toList_inj.1
  have hl := adC_len l
  have e1 : (l.length + 1) * 3 - l.length * 3 = 3 := by omega
  have e2 : (l.length + 1) * 3 + 1 - l.length * 3 = 4 := by omega
  have e3 : (l.length + 1) * 3 + 2 - l.length * 3 = 5 := by omega
  simp only [twA, Array.toList_setIfInBounds, adC, List.cons_append, List.nil_append]
  rw [List.set_append_right _ _ (by omega), List.set_append_right _ _ (by omega), List.set_append_right _ _ (by omega), hl, e1, e2, e3]
  rfl
theorem made_adds (m : Nat) : (madeCells (Value.agg #[.int .i64 0, .int .i64 0, .int .i64 0]).cells (m * 3)).toList = (List.replicate m ad0).flatMap adC := by
  apply List.ext_getElem?
  intro i
  rcases Nat.lt_or_ge i (m * 3) with h | h
  · obtain ⟨q, r, hr, rfl⟩ : ∃ q r, r < 3 ∧ i = q * 3 + r := ⟨i / 3, i % 3, by omega, by omega⟩
    have hq : q < m := by omega
    have e : (madeCells (Value.agg #[.int .i64 0, .int .i64 0, .int .i64 0]).cells (m * 3)).toList[q * 3 + r]? = some ((#[.int .i64 0, .int .i64 0, .int .i64 0] : Array Value)[r]!) := by
      have e2 : (q * 3 + r) % 3 = r := by omega
      simp [madeCells, Value.cells, h, e2]
    rw [e]
    symm
    obtain ⟨h1, h2, h3⟩ := adC_get (List.replicate m ad0) q ad0 (by simp [hq])
    match r, hr with
    | 0, _ => exact h1
    | 1, _ => exact h2
    | 2, _ => exact h3
  · rw [List.getElem?_eq_none (by simp [madeCells]; exact h), List.getElem?_eq_none (by rw [adC_len]; simpa using h)]
theorem Try.infoAdd : (Try.prog.info? 65).map (fun i => (i.zero, i.size, i.bytes)) = some (some (.agg #[.int .i64 0, .int .i64 0, .int .i64 0]), 3, 24) := by kernel_rfl
theorem Try.sizeAdd : (Try.prog.info? 65).map (·.size) = some 3 := by kernel_rfl
theorem slice_roomA (w : World) (g n cap i : Nat) (hi : i ≤ cap) : (Instr.slice 23 (.slice (some ⟨g, 0, none⟩) n cap) none (some (.int .i64 (i : Int))) none).run Try.prog w = .ok (.slice (some ⟨g, 0, none⟩) i cap) w := by
  have ht : Try.prog.underlying 23 = some (.slice (Try.prog.elem 23)) := by kernel_rfl
  have he : Try.prog.elem 23 = 65 := by kernel_rfl
  have hs : (Go.sizeOf 65).run Try.prog w = .ok 3 w := by kernel_rfl
  rw [run_slice_h (P := Try.prog) w 23 (some ⟨g, 0, none⟩) n cap ht .i64 i (by omega) (by omega), he, hs]
  simp [Result.andThen, sliced, Addr.add]
theorem run_copy_rows {P : Program} (w : World) (dT sT ty elem : TypeId) (g dLen dCap : Nat) (a : Addr) (sLen sCap z : Nat) (cur : Array Value) (t : TypeId) (cs : List Value)
    (hu : P.underlying dT = some (.slice elem)) (hs : (P.info? elem).map (·.size) = some z)
    (hg : w.heap[g]? = some (.cells cur t (0, 0))) (hn : cs.length = Nat.min sLen dLen * z)
    (hsrc : ∀ j v, cs[j]? = some v → w.cell? (a.add j) = some v) (hfit : cs.length ≤ cur.size) (h1 : ∀ v ∈ cs, v.oneCell' = true) :
    (Builtin.copy_ #[dT, sT] ty #[.slice (some ⟨g, 0, none⟩) dLen dCap, .slice (some a) sLen sCap]).run P w =
      .ok (goInt (Nat.min sLen dLen)) (w.setRow g (cs ++ cur.toList.drop cs.length).toArray) := by
  have hl := run_loadCells_list (P := P) w a cs hsrc
  have hst := run_storeCells_at P g 0 t cs 0 cur w hg (by simpa using hfit) h1
  cases hq : P.info? elem with
  | none => simp [hq] at hs
  | some i =>
    have hi : i.size = z := by simpa [hq] using hs
    simp at hst
    simp [Builtin.copy_, run_underlying hu, Builtin.lenOf, Builtin.firstCells, sizeOf, typeInfo, hq, hi, ← hn, hl, hst]
end Go.Proofs.Ytokdflbajnecpaa.Tn.Ax
