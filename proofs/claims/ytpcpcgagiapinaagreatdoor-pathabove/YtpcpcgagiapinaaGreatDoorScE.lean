/- The contract of sched.data: public numbers put behind a row. -/
import Derived.Test.YtpcpcgagiapinaaGreatDoorZ23
import Derived.Test.YtpcpcgagiapinaaGreatDoorZ02
namespace Go.Proofs.YtpcpcgagiapinaaGreatDoor.Tn
open Go.RowKit Go.Maps
def Rg (N : Nat) (l : List Nat) : Prop := ∀ m ∈ l, 1 ≤ m ∧ m ≤ N
theorem Rg.mono {N M : Nat} {l : List Nat} (h : Rg N l) (hN : N ≤ M) : Rg M l := fun m hm => by have := h m hm; omega
structure DStep (w w' : World) (b : Nat) (sv sv' : Value) (mb : Nat) (L' : List Tm) (lv lv' : Value) (acc' : List Nat) : Prop where
  st : St w' b sv' mb L'
  row : NRow 0 w' lv' acc'
  fr : Fr (foot b sv mb ++ lv.ownBlock.toList) w w'
  place : ∀ k, sv'.ownBlock = some k → sv.ownBlock = some k ∨ w.heap.size ≤ k
  placeL : ∀ k, lv'.ownBlock = some k → lv.ownBlock = some k ∨ w.heap.size ≤ k
theorem DStep.refl {w : World} {b : Nat} {sv : Value} {mb : Nat} {L : List Tm} {lv : Value} {acc : List Nat} (h : St w b sv mb L) (hr : NRow 0 w lv acc) : DStep w w b sv sv mb L lv lv acc := ⟨h, hr, Fr.refl _ _, fun _ hk => Or.inl hk, fun _ hk => Or.inl hk⟩
theorem DStep.step {w W W' : World} {b : Nat} {sv sv1 sv2 : Value} {mb : Nat} {L1 L2 : List Tm} {lv lv1 : Value} {acc : List Nat} (h : DStep w W b sv sv1 mb L1 lv lv1 acc) (s : SStep W W' b sv1 sv2 mb L2) : DStep w W' b sv sv2 mb L2 lv lv1 acc :=
  ⟨s.st, h.row.keep (fun x hx => s.fr.block x (h.row.lt x hx).2 (h.row.foot h.st x hx)),
   h.fr.trans s.fr (fun _ _ c => c) (fun x hx c => by
     rcases mem_foot.1 c with e | e | e
     · exact List.mem_append_left _ (mem_foot.2 (Or.inl e))
     · exact List.mem_append_left _ (mem_foot.2 (Or.inr (Or.inl e)))
     · rcases h.place x e with q | q
       · exact List.mem_append_left _ (mem_foot.2 (Or.inr (Or.inr q)))
       · omega),
   fun k hk => by
     rcases s.place k hk with q | q
     · exact h.place k q
     · exact Or.inr (Nat.le_trans h.fr.size q),
   h.placeL⟩
theorem DStep.bw {w W W' : World} {b : Nat} {sv sv1 : Value} {mb : Nat} {L1 : List Tm} {lv lv1 : Value} {acc : List Nat} (h : DStep w W b sv sv1 mb L1 lv lv1 acc) (hb : Below W.heap.size W W') : DStep w W' b sv sv1 mb L1 lv lv1 acc := h.step (SStep.same h.st hb)
theorem DStep.before {w w0 W : World} {b : Nat} {sv sv1 : Value} {mb : Nat} {L1 : List Tm} {lv lv1 : Value} {acc : List Nat} (hb : Below w.heap.size w w0) (h : DStep w0 W b sv sv1 mb L1 lv lv1 acc) : DStep w W b sv sv1 mb L1 lv lv1 acc :=
  ⟨h.st, h.row, ((Fr.ofBelow hb).mono (fun _ _ c => by cases c)).tr h.fr, fun k hk => (h.place k hk).imp id (Nat.le_trans hb.size), fun k hk => (h.placeL k hk).imp id (Nat.le_trans hb.size)⟩
theorem DStep.grown {w W W5 : World} {b : Nat} {sv sv1 : Value} {mb : Nat} {L1 : List Tm} {lv lv1 v' : Value} {acc acc' : List Nat} {ob : Obj} (h : DStep w W b sv sv1 mb L1 lv lv1 acc) (hr : NRow 0 W5 v' acc') (hg : (W.alloc ob).grownBy W5 lv1.ownBlock) (hp : v'.ownBlock = lv1.ownBlock ∨ v'.ownBlock = some (W.alloc ob).heap.size) : DStep w W5 b sv sv1 mb L1 lv v' acc' := by
  have f1 : Fr lv1.ownBlock.toList W W5 := ((Fr.refl lv1.ownBlock.toList W).alloc ob).tr (Fr.ofGrown hg)
  have hd := h.row.foot h.st
  refine ⟨h.st.keep f1 (fun x hx c => hd x (by simpa using c) hx), hr, ?_, h.place, fun k hk => ?_⟩
  · refine h.fr.trans f1 (fun _ _ c => c) (fun x hx c => ?_)
    rcases h.placeL x (by simpa using c) with q | q
    · exact List.mem_append_right _ (by simp [q])
    · omega
  · rcases hp with hp | hp
    · exact h.placeL k (by rw [← hp]; exact hk)
    · right
      rw [hp] at hk
      cases hk
      have := h.fr.size
      simp
      omega
theorem DStep.trans {w W W' : World} {b : Nat} {sv sv1 sv2 : Value} {mb : Nat} {L1 L2 : List Tm} {lv lv1 lv2 : Value} {acc acc2 : List Nat} (h : DStep w W b sv sv1 mb L1 lv lv1 acc) (k : DStep W W' b sv1 sv2 mb L2 lv1 lv2 acc2) : DStep w W' b sv sv2 mb L2 lv lv2 acc2 := by
  refine ⟨k.st, k.row, ?_, fun x hx => ?_, fun x hx => ?_⟩
  · refine h.fr.trans k.fr (fun _ _ c => c) (fun x hx c => ?_)
    rcases List.mem_append.1 c with c | c
    · rcases mem_foot.1 c with e | e | e
      · exact List.mem_append_left _ (mem_foot.2 (Or.inl e))
      · exact List.mem_append_left _ (mem_foot.2 (Or.inr (Or.inl e)))
      · rcases h.place x e with q | q
        · exact List.mem_append_left _ (mem_foot.2 (Or.inr (Or.inr q)))
        · omega
    · rcases h.placeL x (by simpa using c) with q | q
      · exact List.mem_append_right _ (by simp [q])
      · omega
  · rcases k.place x hx with q | q
    · exact h.place x q
    · exact Or.inr (Nat.le_trans h.fr.size q)
  · rcases k.placeL x hx with q | q
    · exact h.placeL x q
    · exact Or.inr (Nat.le_trans h.fr.size q)
end Go.Proofs.YtpcpcgagiapinaaGreatDoor.Tn
