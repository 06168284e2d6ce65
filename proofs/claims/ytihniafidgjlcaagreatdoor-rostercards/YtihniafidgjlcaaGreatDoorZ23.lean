/- Texts joined: LgT0 LgTAdds LgTSeals LgTJoins. -/
import Derived.Test.YtihniafidgjlcaaGreatDoorZ15
import Derived.Test.YtihniafidgjlcaaGreatDoorZ11
import Derived.Test.YtihniafidgjlcaaGreatDoorTtA
import Derived.Laws.CopyRow
import Derived.Laws.IdiomCopy
import Derived.Deep.RegionHeld3
/- Rows of structs of numbers, with marks behind them: what they are in memory. No walk is in this text. -/
namespace Go.Proofs.YtihniafidgjlcaaGreatDoor
open Go.RowKit Go.Maps
def icC (x : List Int) : List Value := x.map fun z => Value.int .i64 z
def rwC (l : List (List Int)) : List Value := l.flatMap icC
def zrs (c : Nat) : List Int := List.replicate c 0
theorem zrs_at {c j : Nat} (h : j < c) : (zrs c)[j]? = some 0 := by simp [zrs, h]
def mk1 (n : Nat) : Int := -1000 - (n : Int)
def mkR (c n : Nat) : List Int := mk1 n :: List.replicate (c - 1) 0
theorem rwC_len {c : Nat} {l : List (List Int)} (h : ∀ x ∈ l, x.length = c) : (rwC l).length = l.length * c := by
  induction l with
  | nil => simp [rwC]
  | cons a r ih =>
    have h1 := h a (by simp)
    have h2 := ih (fun x hx => h x (by simp [hx]))
    unfold rwC at h2 ⊢
    rw [List.flatMap_cons, List.length_append, h2]
    simp only [icC, List.length_map, h1, List.length_cons, Nat.add_mul, Nat.one_mul]
    omega
theorem rwC_get {c : Nat} {l : List (List Int)} (h : ∀ x ∈ l, x.length = c) {i j : Nat} {x : List Int} {z : Int} (hi : l[i]? = some x) (hj : x[j]? = some z) : (rwC l)[i * c + j]? = some (.int .i64 z) := by
  induction l generalizing i with
  | nil => simp at hi
  | cons a r ih =>
    have h1 := h a (by simp)
    have hic : (icC a).length = c := by simp [icC, h1]
    have hjc : j < c := by
      have := h x (List.mem_of_getElem? hi)
      have := (List.getElem?_eq_some_iff.1 hj).1
      omega
    unfold rwC
    rw [List.flatMap_cons]
    cases i with
    | zero =>
      simp at hi; subst hi
      rw [Nat.zero_mul, Nat.zero_add, List.getElem?_append_left (by omega)]
      simp [icC, hj]
    | succ k =>
      rw [List.getElem?_cons_succ] at hi
      have e : (k + 1) * c + j = c + (k * c + j) := by rw [Nat.add_mul]; omega
      rw [e, List.getElem?_append_right (by omega), hic, Nat.add_sub_cancel_left]
      exact ih (fun x hx => h x (by simp [hx])) hi
def twR (l : List (List Int)) (x y : List Int) : Array Value := (rwC l ++ (icC x ++ icC y)).toArray
theorem twR_flat (l : List (List Int)) (x y : List Int) : twR l x y = (rwC (l ++ [x, y])).toArray := by simp [twR, rwC, List.flatMap_append, List.flatMap_cons]
theorem twR_at {c : Nat} {w : World} {g : Nat} {l : List (List Int)} {x y : List Int} {t : TypeId} (hl : ∀ q ∈ l, q.length = c) (hx : x.length = c) (hy : y.length = c) (h : w.heap[g]? = some (.cells (twR l x y) t (0, 0))) {i j : Nat} {a : List Int} {z : Int} (hi : (l ++ [x, y])[i]? = some a) (hj : a[j]? = some z) : w.cell? ⟨g, i * c + j, none⟩ = some (.int .i64 z) := by
  rw [twR_flat] at h
  refine blk_c h ?_
  have := rwC_get (c := c) (l := l ++ [x, y]) (fun q hq => by
    rcases List.mem_append.1 hq with d | d
    · exact hl q d
    · simp at d; rcases d with rfl | rfl
      · exact hx
      · exact hy) hi hj
  simpa using this
theorem made_rows (c m : Nat) (hc : 0 < c) : (madeCells (Value.agg (icC (zrs c)).toArray).cells (m * c)).toList = rwC (List.replicate m (zrs c)) := by
  have hall : ∀ q ∈ List.replicate m (zrs c), q.length = c := fun q hq => by have := List.eq_of_mem_replicate hq; subst this; simp [zrs]
  apply List.ext_getElem?
  intro i
  rcases Nat.lt_or_ge i (m * c) with h | h
  · obtain ⟨q, r, hr, rfl⟩ : ∃ q r, r < c ∧ i = q * c + r := ⟨i / c, i % c, Nat.mod_lt _ hc, by rw [Nat.mul_comm]; exact (Nat.div_add_mod i c).symm⟩
    have hq : q < m := by
      rcases Nat.lt_or_ge q m with k | k
      · exact k
      · have := Nat.mul_le_mul_right c k; omega
    have e2 : (q * c + r) % c = r := by rw [Nat.mul_comm, Nat.mul_add_mod]; exact Nat.mod_eq_of_lt hr
    rw [rwC_get (c := c) hall (i := q) (j := r) (x := zrs c) (z := 0) (by simp [hq]) (by simp [zrs, hr])]
    simp [madeCells, Value.cells, h, icC, zrs, e2, hr]
  · rw [List.getElem?_eq_none (by simp [madeCells]; exact h), List.getElem?_eq_none (by rw [rwC_len hall]; simpa using h)]
theorem run_copy_rows {P : Program} (w : World) (dT sT ty elem : TypeId) (g dLen dCap : Nat) (a : Addr) (sLen sCap z : Nat) (cur : Array Value) (t : TypeId) (cs : List Value)
    (hu : P.underlying dT = some (.slice elem)) (hs : (P.info? elem).map (·.size) = some z)
    (hg : w.heap[g]? = some (.cells cur t (0, 0))) (hn : cs.length = Nat.min sLen dLen * z)
    (hsrc : ∀ j v, cs[j]? = some v → w.cell? (a.add j) = some v) (hfit : cs.length ≤ cur.size) (h1 : ∀ v ∈ cs, v.oneCell' = true) :
    (Builtin.copy_ #[dT, sT] ty #[.slice (some ⟨g, 0, none⟩) dLen dCap, .slice (some a) sLen sCap]).run P w =
      .ok (goInt (Nat.min sLen dLen)) (w.setRow g (cs ++ cur.toList.drop cs.length).toArray) := by
  have hl := run_loadCells_list (P := P) w a cs hsrc
  have hst := run_storeCells_at P g 0 t cs 0 cur w hg (by simpa using hfit) h1
  cases hq : P.info? elem with
  | none => simp [hq] at hs
  | some i =>
    have hi : i.size = z := by simpa [hq] using hs
    simp at hst
    simp [Builtin.copy_, run_underlying hu, Builtin.lenOf, Builtin.firstCells, sizeOf, typeInfo, hq, hi, ← hn, hl, hst]
theorem copy_none {P : Program} (w : World) (dT sT ty elem : TypeId) (d a : Option Addr) (dCap sCap z : Nat) (hu : P.underlying dT = some (.slice elem)) (hs : (P.info? elem).map (·.size) = some z) :
    (Builtin.copy_ #[dT, sT] ty #[.slice d 0 dCap, .slice a 0 sCap]).run P w = .ok (goInt 0) w := by
  have hl0 : ∀ (x : Addr), (loadCells x 0).run P w = .ok #[] w := fun x => by simpa using run_loadCells_list (P := P) w x [] (by simp)
  cases hq : P.info? elem with
  | none => simp [hq] at hs
  | some i => cases d <;> cases a <;> simp [Builtin.copy_, run_underlying hu, Builtin.lenOf, Builtin.firstCells, sizeOf, typeInfo, hq, storeCells, hl0]
theorem froz_b {W : World} {k i : Nat} {cs : Array Value} {t : TypeId} (hk : W.heap[k]? = some (.cells cs t (0, 0))) : W.frozen? ⟨k, i, none⟩ = false := by simp [World.frozen?, hk]
def TwR (c : Nat) (t : TypeId) (w : World) (g : Nat) (l : List (List Int)) : Prop := w.heap[g]? = some (.cells (twR l (mkR c l.length) (mkR c (l.length + 1))) t (0, 0))
theorem mkR_len {c : Nat} (hc : 0 < c) (n : Nat) : (mkR c n).length = c := by simp [mkR]; omega
theorem TwR.ri {c : Nat} {t : TypeId} {w : World} {g : Nat} {l : List (List Int)} (h : TwR c t w g l) (hc : 0 < c) (hl : l.length ≤ 262144) (hz : ∀ x ∈ l, x.length = c ∧ ∀ z ∈ x, -9223372036854775808 ≤ z ∧ z ≤ 9223372036854775807) : RI c w (.slice (some ⟨g, 0, none⟩) l.length (l.length + 2)) l := by
  refine ⟨by omega, hz, _, _, rfl, Or.inr ⟨g, 0, rfl, fun i x hi j z hj => ?_⟩⟩
  rw [Nat.zero_add]
  exact twR_at (fun q hq => (hz q hq).1) (mkR_len hc _) (mkR_len hc _) h (by rw [List.getElem?_append_left (List.getElem?_eq_some_iff.1 hi).1]; exact hi) hj
end Go.Proofs.YtihniafidgjlcaaGreatDoor

/- markAdd, isAdd, TwinAdds, LeftAdds. -/
namespace Go.Proofs.YtihniafidgjlcaaGreatDoor
open Go.RowKit Go.Maps
end Go.Proofs.YtihniafidgjlcaaGreatDoor

/- markSeal, isSeal, TwinSeals, LeftSeals. -/
namespace Go.Proofs.YtihniafidgjlcaaGreatDoor
open Go.RowKit Go.Maps
end Go.Proofs.YtihniafidgjlcaaGreatDoor

/- markJoin, isJoin, TwinJoins, LeftJoins. -/
namespace Go.Proofs.YtihniafidgjlcaaGreatDoor
open Go.RowKit Go.Maps
end Go.Proofs.YtihniafidgjlcaaGreatDoor
