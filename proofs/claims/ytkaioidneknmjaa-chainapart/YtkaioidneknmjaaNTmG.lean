/- The contract of Data of package term. -/
import Derived.Test.YtkaioidneknmjaaNTmF
namespace Go.Proofs.Ytkaioidneknmjaa.Tn
open Go.RowKit Go.Maps

/-- Public numbers, one behind the other, then their list. -/
def dtF : List Tm → List Int → List Nat → List Tm × Int × Int
  | L, [], acc => ls L (acc.map fun (m : Nat) => (m : Int))
  | L, n :: r, acc => if mkE L ⟨2, n, 0, 0⟩ = 0 then dtF (mkL L ⟨2, n, 0, 0⟩) r (acc ++ [mkN L ⟨2, n, 0, 0⟩]) else (mkL L ⟨2, n, 0, 0⟩, 0, mkE L ⟨2, n, 0, 0⟩)
def dt (L : List Tm) (l : List Int) : List Tm × Int × Int := dtF L l []

theorem NRow.nil (B : Nat) (w : World) : NRow B w (.slice none 0 0) [] := World.ownsRow_nil _ _ _ _
theorem NRow.foot {B : Nat} {w : World} {v : Value} {l : List Nat} {b : Nat} {sv : Value} {mb : Nat} {L : List Tm} (h : NRow B w v l) (hs : St w b sv mb L) : ∀ k, v.ownBlock = some k → k ∉ foot b sv mb := by
  intro k hk c
  obtain ⟨cur, hc⟩ := h.block hk
  rcases mem_foot.1 c with rfl | rfl | c
  · have := hs.blk; rw [hc] at this; simp at this
  · obtain ⟨es, clock, hm⟩ := hs.map.block; rw [hc] at hm; simp at hm
  · exact rows_apart hs.row h c hk
theorem NRow.nis {B : Nat} {w : World} {v : Value} {l : List Nat} (h : NRow B w v l) (hl : l.length ≤ 140737488355328) (hz : ∀ m ∈ l, m ≤ 1048576) : NIs w v (l.map fun (m : Nat) => (m : Int)) := by
  rcases h.form with ⟨rfl, rfl⟩ | ⟨g, cap, hv, _⟩
  · exact ⟨none, 0, rfl, by simp, by simp, Or.inl rfl⟩
  · refine ⟨_, cap, by rw [List.length_map]; exact hv, by simpa using hl, fun z hz' => ?_, Or.inr ⟨g, 0, rfl, fun i z hi => ?_⟩⟩
    · obtain ⟨m, hm, rfl⟩ := List.mem_map.1 hz'
      have := hz m hm; omega
    · rw [List.getElem?_map] at hi
      cases hm : l[i]? with
      | none => rw [hm] at hi; cases hi
      | some m =>
        rw [hm] at hi
        simp only [Option.map_some, Option.some.injEq] at hi
        subst hi
        rw [Nat.zero_add]
        exact h.at (by rw [hv]; rfl) hm
/-- A row of numbers grows beside a store. -/
theorem SStep.beside {w w4 w5 : World} {b : Nat} {sv sv2 : Value} {mb : Nat} {L : List Tm} {nv : Value} {acc : List Nat} {ob : Obj} (h : SStep w w4 b sv sv2 mb L) (hn : NRow w.heap.size w4 nv acc) (hg : (w4.alloc ob).grownBy w5 nv.ownBlock) : SStep w w5 b sv sv2 mb L := by
  have f1 : Fr nv.ownBlock.toList w4 w5 := ((Fr.refl nv.ownBlock.toList w4).alloc ob).tr (Fr.ofGrown hg)
  have hd := hn.foot h.st
  refine ⟨h.st.keep f1 (fun x hx c => hd x (by simpa using c) hx), ?_, h.place⟩
  exact h.fr.trans f1 (fun _ _ c => c) (fun x hx c => by have := (hn.lt x (by simpa using c)).1; omega)
theorem NRow.grown {w w4 : World} {v' : Value} {acc : List Nat} {n : Nat} (h : w4.ownsRow w.heap.size 3 1 v' (acc.length + 1) (acc.map (fun m => .int .i64 ((m : Nat) : Int)) ++ [.int .i64 (n : Int)])) : NRow w.heap.size w4 v' (acc ++ [n]) := by
  unfold NRow; simpa using h

end Go.Proofs.Ytkaioidneknmjaa.Tn
