/- The contract of Targets. -/
import Derived.Test.YtocopmbdjopljaaGreatDoorTrP
namespace Go.Proofs.YtocopmbdjopljaaGreatDoor
open Go.Shelf Go.RowKit Go.Maps Go.Sort Go.Lib

abbrev F31 := Fin 31
def enF (x : F31) : Value := .int .i64 ((x.val : Nat) : Int)
def toF (z : Int) : F31 := ⟨z.toNat % 31, Nat.mod_lt _ (by decide)⟩
theorem enF_toF {z : Int} (h0 : 0 ≤ z) (h1 : z ≤ 30) : enF (toF z) = .int .i64 z ∧ (((toF z).val : Nat) : Int) = z := by
  have : ((z.toNat % 31 : Nat) : Int) = z := by rw [Nat.mod_eq_of_lt (by omega)]; omega
  exact ⟨by unfold enF toF; rw [this], this⟩
theorem fr_putRowG {α : Type} [Inhabited α] (enc : α → Value) (w : World) (blk off q : Nat) (d : Array α) : Fr [blk] w (putRow enc (Sort.ahead w q) blk off d) := by
  refine ⟨rfl, rfl, rfl, by simp, fun k hk hn => ?_⟩
  simp only [putRow, mapBlock, Sort.ahead, Array.getElem?_modify]
  have : blk ≠ k := fun c => hn (by simp [c])
  simp [this]
theorem putRow_blk {α : Type} [Inhabited α] (enc : α → Value) (w : World) (blk off q : Nat) (d : Array α) {cur : Array Value} {t : TypeId} {z : Nat × Nat} (h : w.heap[blk]? = some (.cells cur t z)) : ∃ cur', (putRow enc (Sort.ahead w q) blk off d).heap[blk]? = some (.cells cur' t z) ∧ cur'.size = cur.size := by
  refine ⟨putCells enc off d cur, ?_, by simp [putCells]⟩
  simp only [putRow, mapBlock, Sort.ahead, Array.getElem?_modify, if_true, h]; rfl
theorem Nums.keepFr {w w' : World} {v : Value} {l : List Int} {S : List Nat} (h : Nums w v l) (hf : Fr S w w') (hn : ∀ g o c, v = .slice (some ⟨g, o, none⟩) l.length c → g ∉ S) : Nums w' v l := by
  rcases h with h | ⟨g, o, cap, hv, h1, h2, hc⟩
  · exact Or.inl h
  · refine Or.inr ⟨g, o, cap, hv, h1, h2, fun j z hj => ?_⟩
    have hcc := hc j z hj
    exact cell_keep hcc (hf.block g (lt_of_cell (a := ⟨g, o + j, none⟩) hcc) (hn g o cap hv))
/-- The row of a target, without leaves that are fresh. -/
theorem delete_fresh {B : Nat} {w : World} {u fv : Value} {L fl : List Int} {fb : Nat} (h : Ints B w u L) (hL : L ≠ []) (h30 : ∀ z ∈ L, 0 ≤ z ∧ z ≤ 30) (hf : Nums w fv fl) (hfB : ∀ g o c, fv = .slice (some ⟨g, o, none⟩) fl.length c → fl ≠ [] → g < B) (hc : w.cell? ⟨fb, 0, none⟩ = some fv) (hfb : fb < B) (hl : L.length ≤ 100) :
    Calls Tryz.prog 170 #[u, .func (.func 171) #[] #[.pointer (some ⟨fb, 0, none⟩)]] w fun e w' => ∃ a m c, e = .returned (.slice a m c) ∧ Ints B w' (.slice a m c) (L.filter (keepF fl)) ∧ (Value.slice a m c).ownBlock = u.ownBlock ∧ Fr u.ownBlock.toList w w' := by
  have hpos : 0 < L.length := List.length_pos_iff.2 hL
  obtain ⟨g, cap, rfl, hg, hcap, _⟩ := own_open h hpos
  have hgB : B ≤ g := (World.ownsRow.lt h g rfl).1
  obtain ⟨d, hd⟩ : ∃ d : Array F31, d = (L.map toF).toArray := ⟨_, rfl⟩
  have hds : d.size = L.length := by rw [hd]; simp
  have hdt : d.toList = L.map toF := by rw [hd]
  have hpred : ∀ (W : World) (x : F31), Nums W fv fl → W.cell? ⟨fb, 0, none⟩ = some fv → FnGives Tryz.prog 171 #[.pointer (some ⟨fb, 0, none⟩)] #[enF x] (.bool (!keepF fl ((x.val : Nat) : Int))) W := fun W x h1 h2 => by
    show Calls Tryz.prog 171 #[.int .i64 ((x.val : Nat) : Int), .pointer (some ⟨fb, 0, none⟩)] W _
    refine (gives_fresh ((x.val : Nat) : Int) (by omega) (by have := x.isLt; omega) fb fv fl W h1 h2).mono ?_
    rintro e w' ⟨rfl, rfl⟩
    exact ⟨rfl, 0, rfl⟩
  have hfS : ∀ (W : World) , Fr [g] w W → Nums W fv fl ∧ W.cell? ⟨fb, 0, none⟩ = some fv := fun W hW => by
    refine ⟨?_, cell_keep hc (hW.block fb (lt_of_cell hc) (by simp; omega))⟩
    by_cases e : fl = []
    · subst e
      rcases hf with hf | ⟨g', o', c', rfl, h1, h2, _⟩
      · exact Or.inl hf
      · exact Or.inr ⟨g', o', c', rfl, h1, h2, by simp⟩
    · exact hf.keepFr hW (fun g' o' c' hv => by have := hfB g' o' c' hv e; simp; omega)
  have hH : Holds enF w g 0 d := fun j hj => by
    have hj' : j < L.length := by omega
    have hz := h30 L[j] (List.getElem_mem hj')
    refine ⟨?_, by simpa using own_frozen h (g := g) rfl j⟩
    have e1 : d[j]! = toF L[j] := by rw [getElem!_pos _ j hj]; simp [hd]
    rw [e1, (enF_toF hz.1 hz.2).1]
    have := own_cell h (g := g) rfl (j := j) (u := .int .i64 L[j]) (by simp [I64, List.getElem?_eq_getElem hj'])
    simpa using this
  have K := AnyE.slices_DeleteFunc laysDF enF (fun _ => rfl) (fun x => !keepF fl ((x.val : Nat) : Int)) 171 #[.pointer (some ⟨fb, 0, none⟩)] (enters_of Tryz.func171 (by kernel_rfl) rfl) (toF 0) Tryz.zeroValue3 g 0 cap d w
    (fun W x hb => hpred W x (hfS W ((Fr.ofBelow hb).mono (by simp))).1 (hfS W ((Fr.ofBelow hb).mono (by simp))).2)
    (fun n os dk x hdk => hpred _ x (hfS _ ((fr_putRowG enF w g 0 n dk).tr (fr_grow _ _ _))).1 (hfS _ ((fr_putRowG enF w g 0 n dk).tr (fr_grow _ _ _))).2) hH (by omega) (by omega)
  rw [hds] at K
  refine K.mono ?_
  rintro e w' ⟨rfl, q, rfl⟩
  obtain ⟨R, hR⟩ : ∃ R : List F31, R = d.toList.filter fun x => !!keepF fl ((x.val : Nat) : Int) := ⟨_, rfl⟩
  have hRL : L.filter (keepF fl) = R.map (fun x => ((x.val : Nat) : Int)) := by
    rw [hR, hdt]
    clear hR hdt hds hd K hH h hL hpos hl hcap
    induction L with
    | nil => rfl
    | cons z L ih =>
      have hz := h30 z (by simp)
      have e1 := (enF_toF hz.1 hz.2).2
      have ih := ih (fun y hy => h30 y (by simp [hy]))
      simp only [List.map_cons, List.filter_cons, e1, Bool.not_not]
      simp only [Bool.not_not] at ih
      by_cases ck : keepF fl z = true
      · rw [if_pos ck, if_pos ck, List.map_cons, e1, ih]
      · rw [if_neg ck, if_neg ck, ih]
  rw [← hR]
  have hRl : R.length ≤ L.length := by rw [hR, hdt]; exact Nat.le_trans (List.length_filter_le _ _) (by simp)
  have f1 := fr_putRowG enF w g 0 q (R ++ List.replicate (L.length - R.length) (toF 0)).toArray
  obtain ⟨cur, hcur⟩ := own_kind h (k := g) rfl
  have hcs : cur.size = cap := by
    rcases h.2 with ⟨hv, _⟩ | ⟨g', cap', cur', hv, _, hg', _, _, h3, _⟩
    · cases hv
    · cases hv; rw [hcur] at hg'; cases hg'; omega
  have hcm : cap ≤ maxLen := by
    rcases h.2 with ⟨hv, _⟩ | ⟨g', cap', cur', hv, _, hg', _, h2, _, _⟩
    · cases hv
    · cases hv; exact h2
  obtain ⟨cur', hcur', hcs'⟩ := putRow_blk enF w g 0 q (R ++ List.replicate (L.length - R.length) (toF 0)).toArray hcur
  have hh := holds_putRow enF (Sort.ahead w q) g 0 d (R ++ List.replicate (L.length - R.length) (toF 0)).toArray (holds_ahead _ _ _ _ _ _ hH) (by simp; omega)
  generalize putRow enF (Sort.ahead w q) g 0 (R ++ List.replicate (L.length - R.length) (toF 0)).toArray = W9 at *
  refine ⟨_, _, _, rfl, ?_, rfl, f1⟩
  have e2 : R.length = (L.filter (keepF fl)).length := by rw [hRL]; simp
  rw [e2]
  refine ints_of_cells hcur' hgB (by omega) (by rw [← e2]; omega) hcm (fun j z hj => ?_)
  rw [hRL] at hj
  have hjR : j < R.length := by have := (List.getElem?_eq_some_iff.1 hj).1; simpa using this
  have h9 := (hh j (by simp; omega)).1
  rw [Nat.zero_add] at h9
  rw [h9]
  have e3 : (R ++ List.replicate (L.length - R.length) (toF 0)).toArray[j]! = R[j] := by
    rw [getElem!_pos _ j (by simp; omega)]; simp [hjR]
  rw [e3]
  rw [List.getElem?_map, List.getElem?_eq_getElem hjR] at hj
  cases hj; rfl
end Go.Proofs.YtocopmbdjopljaaGreatDoor
