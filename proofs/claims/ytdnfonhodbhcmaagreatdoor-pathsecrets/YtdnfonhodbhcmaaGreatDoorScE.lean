/- The contract of sched.data: public numbers put behind a row. -/
import Derived.Test.YtdnfonhodbhcmaaGreatDoorScD
import Derived.Test.YtdnfonhodbhcmaaGreatDoorZ02
namespace Go.Proofs.YtdnfonhodbhcmaaGreatDoor.Tn
open Go.RowKit Go.Maps

def dat (p : List Tm × List Nat) (z : Int) : List Tm × List Nat := (mkL p.1 ⟨2, z, 0, 0⟩, p.2 ++ [mkN p.1 ⟨2, z, 0, 0⟩])
def dats (p : List Tm × List Nat) (zs : List Int) : List Tm × List Nat := zs.foldl dat p
theorem dat_len (p : List Tm × List Nat) (z : Int) : (dat p z).1.length ≤ p.1.length + 1 ∧ p.1.length ≤ (dat p z).1.length ∧ (dat p z).2.length = p.2.length + 1 := ⟨mkL_len _ _, mkL_le _ _, by simp [dat]⟩
theorem dats_len (zs : List Int) : ∀ p : List Tm × List Nat, (dats p zs).1.length ≤ p.1.length + zs.length ∧ p.1.length ≤ (dats p zs).1.length ∧ (dats p zs).2.length = p.2.length + zs.length := by
  induction zs with
  | nil => intro p; simp [dats]
  | cons z r ih =>
    intro p
    have h := ih (dat p z)
    have k := dat_len p z
    have e : dats p (z :: r) = dats (dat p z) r := rfl
    rw [e]
    simp only [List.length_cons]
    omega
theorem may_dat (N : Nat) (z : Int) : may N ⟨2, z, 0, 0⟩ = true := by simp [may]
def Rg (N : Nat) (l : List Nat) : Prop := ∀ m ∈ l, 1 ≤ m ∧ m ≤ N
theorem Rg.mono {N M : Nat} {l : List Nat} (h : Rg N l) (hN : N ≤ M) : Rg M l := fun m hm => by have := h m hm; omega
theorem Rg.snoc {N : Nat} {l : List Nat} {n : Nat} (h : Rg N l) (h1 : 1 ≤ n ∧ n ≤ N) : Rg N (l ++ [n]) := fun m hm => by
  rcases List.mem_append.1 hm with c | c
  · exact h m c
  · simp at c; subst c; exact h1
theorem Rg.dat {p : List Tm × List Nat} (h : Rg p.1.length p.2) (z : Int) (hl : p.1.length < 1048576) : Rg (dat p z).1.length (dat p z).2 := by
  refine (h.mono (mkL_le _ _)).snoc ?_
  have := thr_iff.1 (mkN_thr (may_dat p.1.length z) hl).1
  exact ⟨by omega, by show mkN p.1 _ ≤ (mkL p.1 _).length; omega⟩
theorem Rg.dats (zs : List Int) : ∀ {p : List Tm × List Nat}, Rg p.1.length p.2 → p.1.length + zs.length ≤ 1048576 → Rg (Tn.dats p zs).1.length (Tn.dats p zs).2 := by
  induction zs with
  | nil => intro p h _; exact h
  | cons z r ih =>
    intro p h hl
    simp only [List.length_cons] at hl
    exact ih (h.dat z (by omega)) (by have := (dat_len p z).1; omega)

structure DStep (w w' : World) (b : Nat) (sv sv' : Value) (mb : Nat) (L' : List Tm) (lv lv' : Value) (acc' : List Nat) : Prop where
  st : St w' b sv' mb L'
  row : NRow 0 w' lv' acc'
  fr : Fr (foot b sv mb ++ lv.ownBlock.toList) w w'
  place : ∀ k, sv'.ownBlock = some k → sv.ownBlock = some k ∨ w.heap.size ≤ k
  placeL : ∀ k, lv'.ownBlock = some k → lv.ownBlock = some k ∨ w.heap.size ≤ k
theorem DStep.refl {w : World} {b : Nat} {sv : Value} {mb : Nat} {L : List Tm} {lv : Value} {acc : List Nat} (h : St w b sv mb L) (hr : NRow 0 w lv acc) : DStep w w b sv sv mb L lv lv acc := ⟨h, hr, Fr.refl _ _, fun _ hk => Or.inl hk, fun _ hk => Or.inl hk⟩
theorem DStep.step {w W W' : World} {b : Nat} {sv sv1 sv2 : Value} {mb : Nat} {L1 L2 : List Tm} {lv lv1 : Value} {acc : List Nat} (h : DStep w W b sv sv1 mb L1 lv lv1 acc) (s : SStep W W' b sv1 sv2 mb L2) : DStep w W' b sv sv2 mb L2 lv lv1 acc :=
  ⟨s.st, h.row.keep (fun x hx => s.fr.block x (h.row.lt x hx).2 (h.row.foot h.st x hx)),
   h.fr.trans s.fr (fun _ _ c => c) (fun x hx c => by
     rcases mem_foot.1 c with e | e | e
     · exact List.mem_append_left _ (mem_foot.2 (Or.inl e))
     · exact List.mem_append_left _ (mem_foot.2 (Or.inr (Or.inl e)))
     · rcases h.place x e with q | q
       · exact List.mem_append_left _ (mem_foot.2 (Or.inr (Or.inr q)))
       · omega),
   fun k hk => by
     rcases s.place k hk with q | q
     · exact h.place k q
     · exact Or.inr (Nat.le_trans h.fr.size q),
   h.placeL⟩
theorem DStep.bw {w W W' : World} {b : Nat} {sv sv1 : Value} {mb : Nat} {L1 : List Tm} {lv lv1 : Value} {acc : List Nat} (h : DStep w W b sv sv1 mb L1 lv lv1 acc) (hb : Below W.heap.size W W') : DStep w W' b sv sv1 mb L1 lv lv1 acc := h.step (SStep.same h.st hb)
theorem DStep.before {w w0 W : World} {b : Nat} {sv sv1 : Value} {mb : Nat} {L1 : List Tm} {lv lv1 : Value} {acc : List Nat} (hb : Below w.heap.size w w0) (h : DStep w0 W b sv sv1 mb L1 lv lv1 acc) : DStep w W b sv sv1 mb L1 lv lv1 acc :=
  ⟨h.st, h.row, ((Fr.ofBelow hb).mono (fun _ _ c => by cases c)).tr h.fr, fun k hk => (h.place k hk).imp id (Nat.le_trans hb.size), fun k hk => (h.placeL k hk).imp id (Nat.le_trans hb.size)⟩
theorem DStep.grown {w W W5 : World} {b : Nat} {sv sv1 : Value} {mb : Nat} {L1 : List Tm} {lv lv1 v' : Value} {acc acc' : List Nat} {ob : Obj} (h : DStep w W b sv sv1 mb L1 lv lv1 acc) (hr : NRow 0 W5 v' acc') (hg : (W.alloc ob).grownBy W5 lv1.ownBlock) (hp : v'.ownBlock = lv1.ownBlock ∨ v'.ownBlock = some (W.alloc ob).heap.size) : DStep w W5 b sv sv1 mb L1 lv v' acc' := by
  have f1 : Fr lv1.ownBlock.toList W W5 := ((Fr.refl lv1.ownBlock.toList W).alloc ob).tr (Fr.ofGrown hg)
  have hd := h.row.foot h.st
  refine ⟨h.st.keep f1 (fun x hx c => hd x (by simpa using c) hx), hr, ?_, h.place, fun k hk => ?_⟩
  · refine h.fr.trans f1 (fun _ _ c => c) (fun x hx c => ?_)
    rcases h.placeL x (by simpa using c) with q | q
    · exact List.mem_append_right _ (by simp [q])
    · omega
  · rcases hp with hp | hp
    · exact h.placeL k (by rw [← hp]; exact hk)
    · right
      rw [hp] at hk
      cases hk
      have := h.fr.size
      simp
      omega
theorem DStep.trans {w W W' : World} {b : Nat} {sv sv1 sv2 : Value} {mb : Nat} {L1 L2 : List Tm} {lv lv1 lv2 : Value} {acc acc2 : List Nat} (h : DStep w W b sv sv1 mb L1 lv lv1 acc) (k : DStep W W' b sv1 sv2 mb L2 lv1 lv2 acc2) : DStep w W' b sv sv2 mb L2 lv lv2 acc2 := by
  refine ⟨k.st, k.row, ?_, fun x hx => ?_, fun x hx => ?_⟩
  · refine h.fr.trans k.fr (fun _ _ c => c) (fun x hx c => ?_)
    rcases List.mem_append.1 c with c | c
    · rcases mem_foot.1 c with e | e | e
      · exact List.mem_append_left _ (mem_foot.2 (Or.inl e))
      · exact List.mem_append_left _ (mem_foot.2 (Or.inr (Or.inl e)))
      · rcases h.place x e with q | q
        · exact List.mem_append_left _ (mem_foot.2 (Or.inr (Or.inr q)))
        · omega
    · rcases h.placeL x (by simpa using c) with q | q
      · exact List.mem_append_right _ (by simp [q])
      · omega
  · rcases k.place x hx with q | q
    · exact h.place x q
    · exact Or.inr (Nat.le_trans h.fr.size q)
  · rcases k.placeL x hx with q | q
    · exact h.placeL x q
    · exact Or.inr (Nat.le_trans h.fr.size q)
theorem DStep.sstep {w W : World} {b : Nat} {sv sv1 : Value} {mb : Nat} {L1 : List Tm} {lv1 : Value} {acc : List Nat} (h : DStep w W b sv sv1 mb L1 (.slice none 0 0) lv1 acc) : SStep w W b sv sv1 mb L1 :=
  ⟨h.st, h.fr.mono (fun x _ c => by simpa [Value.ownBlock] using c), h.place⟩
theorem DStep.frs {w W V : World} {b : Nat} {sv sv1 : Value} {mb : Nat} {L1 : List Tm} {lv lv1 : Value} {acc : List Nat} (h : DStep w W b sv sv1 mb L1 lv lv1 acc) (k : Fr (foot b sv1 mb ++ lv1.ownBlock.toList) W V) : Fr (foot b sv mb ++ lv.ownBlock.toList) w V := by
  refine h.fr.trans k (fun _ _ c => c) (fun x hx c => ?_)
  rcases List.mem_append.1 c with c | c
  · rcases mem_foot.1 c with e | e | e
    · exact List.mem_append_left _ (mem_foot.2 (Or.inl e))
    · exact List.mem_append_left _ (mem_foot.2 (Or.inr (Or.inl e)))
    · rcases h.place x e with q | q
      · exact List.mem_append_left _ (mem_foot.2 (Or.inr (Or.inr q)))
      · omega
  · rcases h.placeL x (by simpa using c) with q | q
    · exact List.mem_append_right _ (by simp [q])
    · omega
theorem fr_keep {w W : World} {b : Nat} {sv : Value} {mb : Nat} {L : List Tm} {lv : Value} {k : Nat} {cs : Array Value} {t : TypeId} (h : Fr (foot b sv mb ++ lv.ownBlock.toList) w W) (hs : St w b sv mb L) (hk : w.heap[k]? = some (.cells cs t (0, 0))) (h1 : t ≠ 131) (h2 : t ≠ 64) (hlv : ∀ j, lv.ownBlock = some j → j ≠ k) : W.heap[k]? = some (.cells cs t (0, 0)) := by
  rw [h.block k (lt_of_blk hk) (fun c => by
    rcases List.mem_append.1 c with c | c
    · exact hs.notin hk h1 h2 c
    · exact hlv k (by simpa using c) rfl)]
  exact hk
theorem nums_new1 {W : World} {b : Nat} {sv : Value} {mb : Nat} {L : List Tm} {lv : Value} {acc : List Nat} (h : St W b sv mb L) (hr : NRow 0 W lv acc) (x : Int) : ∀ V, Fr (foot b sv mb ++ lv.ownBlock.toList) (W.alloc (.cells #[.int .i64 x] 3)) V → Nums V (.slice (some ⟨W.heap.size, 0, none⟩) 1 1) [x] := fun V hV => by
  have hk := fr_keep hV (h.bw (bwA' _ _)) (heap_alloc_new W (.cells #[.int .i64 x] 3)) (by decide) (by decide) (fun j hj c => by have := (hr.lt j hj).2; omega)
  refine Or.inr ⟨W.heap.size, 0, 1, rfl, by simp, by unfold maxLen; omega, fun j z hj => ?_⟩
  match j, hj with
  | 0, hj => cases hj; exact blk_cell hk rfl
theorem nums_new2 {W : World} {b : Nat} {sv : Value} {mb : Nat} {L : List Tm} {lv : Value} {acc : List Nat} (h : St W b sv mb L) (hr : NRow 0 W lv acc) (x y : Int) : ∀ V, Fr (foot b sv mb ++ lv.ownBlock.toList) (W.alloc (.cells #[.int .i64 x, .int .i64 y] 3)) V → Nums V (.slice (some ⟨W.heap.size, 0, none⟩) 2 2) [x, y] := fun V hV => by
  have hk := fr_keep hV (h.bw (bwA' _ _)) (heap_alloc_new W (.cells #[.int .i64 x, .int .i64 y] 3)) (by decide) (by decide) (fun j hj c => by have := (hr.lt j hj).2; omega)
  refine Or.inr ⟨W.heap.size, 0, 2, rfl, by simp, by unfold maxLen; omega, fun j z hj => ?_⟩
  match j, hj with
  | 0, hj => cases hj; exact blk_cell hk rfl
  | 1, hj => cases hj; exact blk_cell hk rfl
theorem dats_snoc (p : List Tm × List Nat) (l : List Int) (k : Nat) (z : Int) (h : l[k]? = some z) : dats p (l.take (k + 1)) = dat (dats p (l.take k)) z := by
  unfold dats
  rw [List.take_add_one, h]
  simp

end Go.Proofs.YtdnfonhodbhcmaaGreatDoor.Tn
