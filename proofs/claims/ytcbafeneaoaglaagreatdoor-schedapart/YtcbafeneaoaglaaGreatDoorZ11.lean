/- Texts joined: TrLib2 TrP TrQ TrQ2. -/
import Derived.Shelf.SlicesE.IndexFunc
import Derived.Shelf.SlicesE.DeleteFunc
import Derived.Shelf.Slices.Turned
import Derived.Test.YtcbafeneaoaglaaGreatDoorTrO
import Derived.Deep.CutRange
/- The library's slices.ContainsFunc, slices.DeleteFunc and slices.Contains at []int, laid off the shelf; contracts of the two closures. -/
namespace Go.Proofs.YtcbafeneaoaglaaGreatDoor
open Go.Shelf Go.RowKit Go.Maps Go.Sort Go.Lib
-- SlLaysH.n8: no function slices.IndexFunc[[]main.K,main.K]

-- SlLaysH.n10: no function slices.IndexFunc[[]main.K,main.K]

-- Lays.n107: no function slices.Contains[[]int,int]

end Go.Proofs.YtcbafeneaoaglaaGreatDoor

/- The contract of SetPath, where it comes off. -/
namespace Go.Proofs.YtcbafeneaoaglaaGreatDoor
open Go.RowKit Go.Maps

def setPL (T : List Nd) (l : List (Int × Int)) : List Nd := l.foldl (fun T q => T.set q.1.toNat ⟨q.2, (ndAt T q.1.toNat).mem, (ndAt T q.1.toNat).ep, (ndAt T q.1.toNat).un⟩) T
theorem setP_eq (T : List Nd) (xs ps : List Int) : setP T xs ps = setPL T (xs.zip ps) := rfl
theorem setPL_snoc (T : List Nd) (l : List (Int × Int)) (x p : Int) : setPL T (l ++ [(x, p)]) = (setPL T l).set x.toNat ⟨p, (ndAt (setPL T l) x.toNat).mem, (ndAt (setPL T l) x.toNat).ep, (ndAt (setPL T l) x.toNat).un⟩ := by
  unfold setPL; rw [List.foldl_append]; rfl
theorem setPL_len (T : List Nd) (l : List (Int × Int)) : (setPL T l).length = T.length := by
  unfold setPL
  induction l generalizing T with
  | nil => rfl
  | cons q l ih => rw [List.foldl_cons, ih]; simp
theorem prs_mem {T : List Nd} {i : Nat} {p : Nat × List Int} (h : p ∈ prs T i) : p.1 ∈ upN (nlv T) i ∧ p.2 ≠ [] ∧ ∃ s, (p.1, s) ∈ (upN (nlv T) i).zip (sdN (nlv T) i) ∧ p.2 = rsl T s := by
  unfold prs at h
  rw [List.mem_filter, List.mem_map] at h
  obtain ⟨⟨⟨x, s⟩, hq, rfl⟩, h2⟩ := h
  refine ⟨(List.of_mem_zip hq).1, fun c => ?_, s, hq, rfl⟩
  rw [c] at h2; simp at h2
theorem prs_len (T : List Nd) (i : Nat) : (prs T i).length ≤ (upN (nlv T) i).length := by
  rw [prs_eq]
  refine Nat.le_trans (prsL_len _ _) ?_
  simp; omega
end Go.Proofs.YtcbafeneaoaglaaGreatDoor

/- The contract of Targets. -/
namespace Go.Proofs.YtcbafeneaoaglaaGreatDoor
open Go.Shelf Go.RowKit Go.Maps Go.Sort Go.Lib

abbrev F31 := Fin 31
def enF (x : F31) : Value := .int .i64 ((x.val : Nat) : Int)
def toF (z : Int) : F31 := ⟨z.toNat % 31, Nat.mod_lt _ (by decide)⟩
theorem enF_toF {z : Int} (h0 : 0 ≤ z) (h1 : z ≤ 30) : enF (toF z) = .int .i64 z ∧ (((toF z).val : Nat) : Int) = z := by
  have : ((z.toNat % 31 : Nat) : Int) = z := by rw [Nat.mod_eq_of_lt (by omega)]; omega
  exact ⟨by unfold enF toF; rw [this], this⟩
theorem fr_putRowG {α : Type} [Inhabited α] (enc : α → Value) (w : World) (blk off q : Nat) (d : Array α) : Fr [blk] w (putRow enc (Sort.ahead w q) blk off d) := by
  refine ⟨rfl, rfl, rfl, by simp, fun k hk hn => ?_⟩
  simp only [putRow, mapBlock, Sort.ahead, Array.getElem?_modify]
  have : blk ≠ k := fun c => hn (by simp [c])
  simp [this]
theorem putRow_blk {α : Type} [Inhabited α] (enc : α → Value) (w : World) (blk off q : Nat) (d : Array α) {cur : Array Value} {t : TypeId} {z : Nat × Nat} (h : w.heap[blk]? = some (.cells cur t z)) : ∃ cur', (putRow enc (Sort.ahead w q) blk off d).heap[blk]? = some (.cells cur' t z) ∧ cur'.size = cur.size := by
  refine ⟨putCells enc off d cur, ?_, by simp [putCells]⟩
  simp only [putRow, mapBlock, Sort.ahead, Array.getElem?_modify, if_true, h]; rfl
theorem Nums.keepFr {w w' : World} {v : Value} {l : List Int} {S : List Nat} (h : Nums w v l) (hf : Fr S w w') (hn : ∀ g o c, v = .slice (some ⟨g, o, none⟩) l.length c → g ∉ S) : Nums w' v l := by
  rcases h with h | ⟨g, o, cap, hv, h1, h2, hc⟩
  · exact Or.inl h
  · refine Or.inr ⟨g, o, cap, hv, h1, h2, fun j z hj => ?_⟩
    have hcc := hc j z hj
    exact cell_keep hcc (hf.block g (lt_of_cell (a := ⟨g, o + j, none⟩) hcc) (hn g o cap hv))
end Go.Proofs.YtcbafeneaoaglaaGreatDoor

/- The contract of Targets, the walk. -/
namespace Go.Proofs.YtcbafeneaoaglaaGreatDoor
open Go.RowKit Go.Maps

/-- A row of a row of rows is changed, and laid anew in its place. -/
theorem RR.put {B : Nat} {w w1 : World} {g m : Nat} {ls : List (List Int)} {us : List Value} {j : Nat} {u u' : Value} {l' : List Int} (h : RR B w (.slice (some ⟨g, 0, none⟩) ls.length m) ls us) (hu : us[j]? = some u) (hf : Fr u.ownBlock.toList w w1) (hr : Ints B w1 u' l') (hp : u'.ownBlock = u.ownBlock) :
    RR B (w1.setCell ⟨g, j, none⟩ u') (.slice (some ⟨g, 0, none⟩) ls.length m) (ls.set j l') (us.set j u') := by
  obtain ⟨l, hl, hul⟩ := h.pick hu
  have hj : j < us.length := (List.getElem?_eq_some_iff.1 hu).1
  have hgu : g ∉ u.ownBlock.toList := fun c => own_apart hul h.row (show (3 : Nat) ≠ 55 by decide) (k := g) (by simpa using c) rfl
  have hgl : g < w.heap.size := (World.ownsRow.lt h.row g rfl).2
  have row1 : w1.ownsRow B 55 1 (.slice (some ⟨g, 0, none⟩) ls.length m) ls.length us := own_keep h.row (fun k hk => by cases hk; exact hf.block g hgl hgu)
  have row2 := own_set row1 (g := g) rfl (j := j) u'
  have kp : ∀ (x : Value) (ll : List Int), Ints B w1 x ll → Ints B (w1.setCell ⟨g, j, none⟩ u') x ll := fun x ll hx => own_keep hx (fun k hk => Below.heap_setCell _ _ _ _ (fun c => by
    have c : k = g := c
    subst c
    exact own_apart hx row1 (show (3 : Nat) ≠ 55 by decide) hk rfl))
  refine ⟨by simpa using h.ul, by simpa using row2, ?_, ?_⟩
  · intro i ll x hll hx
    by_cases c : j = i
    · subst c
      rw [List.getElem?_set_self hj] at hx
      rw [List.getElem?_set_self (by rw [← h.ul]; exact hj)] at hll
      cases hx; cases hll
      exact kp _ _ hr
    · rw [List.getElem?_set_ne c] at hx hll
      have hx0 := h.un i ll x hll hx
      exact kp _ _ (own_keep hx0 (fun k hk => hf.block k (World.ownsRow.lt hx0 k hk).2 (fun q => c (h.apart j i u x k hu hx (by simpa using q) hk))))
  · intro a b x y k ha hb k1 k2
    have cs : ∀ (a : Nat) (x : Value), (us.set j u')[a]? = some x → x.ownBlock = some k → ∃ x0, us[a]? = some x0 ∧ x0.ownBlock = some k := fun a x ha hk => by
      by_cases c : j = a
      · subst c
        rw [List.getElem?_set_self hj] at ha
        cases ha
        exact ⟨u, hu, by rw [← hp]; exact hk⟩
      · rw [List.getElem?_set_ne c] at ha
        exact ⟨x, ha, hk⟩
    obtain ⟨x0, a1, a2⟩ := cs a x ha k1
    obtain ⟨y0, b1, b2⟩ := cs b y hb k2
    exact h.apart a b x0 y0 k a1 b1 a2 b2
/-- The rows of targets, the first ones already looked through. -/
def tgtJ (ls : List (List Int)) (fl : List Int) (j : Nat) : List (List Int) := (ls.take j).map (fun l => l.filter (keepF fl)) ++ ls.drop j
theorem tgtJ_step {ls : List (List Int)} {fl : List Int} {j : Nat} {l : List Int} (h : ls[j]? = some l) : (tgtJ ls fl j)[j]? = some l ∧ (tgtJ ls fl j).set j (l.filter (keepF fl)) = tgtJ ls fl (j + 1) := by
  have hj := (List.getElem?_eq_some_iff.1 h).1
  have hlen : ((ls.take j).map (fun l => l.filter (keepF fl))).length = j := by simp; omega
  have hd : ls.drop j = l :: ls.drop (j + 1) := by
    rw [List.drop_eq_getElem_cons hj]; congr 1; exact (List.getElem?_eq_some_iff.1 h).2
  unfold tgtJ
  constructor
  · rw [List.getElem?_append_right (by omega), hlen, hd]; simp
  · rw [List.set_append_right _ _ (by omega), hlen, hd, List.take_add_one, h]; simp
theorem tgtJ_len (ls : List (List Int)) (fl : List Int) (j : Nat) : (tgtJ ls fl j).length = ls.length := by unfold tgtJ; simp; omega
theorem rsl_small {T : List Nd} (hw : Wd T) (hs : Sm T) : ∀ x, x < T.length → ∀ z ∈ rsl T x, 0 ≤ z ∧ z ≤ 30 := by
  obtain ⟨g1, g2, g3, g4, g5⟩ := hw.facts
  rw [g2]
  have hpos : ∀ x, x < 2 * nlv T - 1 → pos (ndAt T x) = true → ∀ z ∈ rsl T x, 0 ≤ z ∧ z ≤ 30 := fun x hx hp z hz => by
    rw [rsl_pos hp] at hz
    rcases List.mem_cons.1 hz with rfl | hz
    · omega
    · obtain ⟨u, hu, rfl⟩ := List.mem_map.1 hz
      have := (hs x (by omega)).2 u hu; omega
  refine node_ind g1 (fun x hx ho => ?_) (fun x hx ho i1 i2 => ?_)
  · cases hp : pos (ndAt T x)
    · rw [rsl_leaf hp ho]; simp
    · exact hpos x hx hp
  · cases hp : pos (ndAt T x)
    · rw [rsl_par g1 hx hp ho]; intro z hz; rcases List.mem_append.1 hz with h | h
      · exact i1 z h
      · exact i2 z h
    · exact hpos x hx hp
def tgtR (T : List Nd) (i : Int) (fl : List Int) : List (List Int) := if askE T i = 0 then tgt T i.toNat fl else []
end Go.Proofs.YtcbafeneaoaglaaGreatDoor
