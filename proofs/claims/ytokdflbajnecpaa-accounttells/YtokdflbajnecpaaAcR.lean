/- The document's account: its store and a row of numbers; its Digest. -/
import Derived.Test.YtokdflbajnecpaaAcH
import Derived.Test.YtokdflbajnecpaaNBkTGs
import Derived.Test.YtokdflbajnecpaaNTmRL
namespace Go.Proofs.Ytokdflbajnecpaa.Tn
open Go.RowKit Go.Maps
theorem may_dat (N : Nat) (z : Int) : may N ⟨2, z, 0, 0⟩ = true := by simp [may]
theorem RStep.after {w w0 w1 : World} {b : Nat} {sv sv1 : Value} {L1 : List Tm} (k : RStep w w0 b sv sv1 L1) (h : Below w0.heap.size w0 w1) : RStep w w1 b sv sv1 L1 := k.trans (RStep.same k.st h)
theorem Rs.notin {w : World} {b : Nat} {sv : Value} {L : List Tm} {k : Nat} {cs : Array Value} {t : TypeId} (h : Rs w b sv L) (hk : w.heap[k]? = some (.cells cs t (0, 0))) (h1 : t ≠ 103) (h2 : t ≠ 55) : k ∉ rfoot b sv := by
  intro c
  rcases mem_rfoot.1 c with rfl | c
  · rw [h.blk] at hk; injection hk with hk; injection hk with _ hk; exact h1 hk.symm
  · obtain ⟨cur, e⟩ := h.row.block c; rw [e] at hk; injection hk with hk; injection hk with _ hk; exact h2 hk.symm
theorem kept_rfr {w w' : World} {b : Nat} {sv : Value} {L : List Tm} {k : Nat} {cs : Array Value} {t : TypeId} (h : w.heap[k]? = some (.cells cs t (0, 0))) (hs : Rs w b sv L) (hf : Fr (rfoot b sv) w w') (h1 : t ≠ 103) (h2 : t ≠ 55) : w'.heap[k]? = some (.cells cs t (0, 0)) := by rw [hf.block k (lt_of_blk h) (hs.notin h h1 h2)]; exact h
theorem RStep.poke {w W : World} {b : Nat} {sv sv' : Value} {L : List Tm} {k i : Nat} {cs : Array Value} {t : TypeId} (h : RStep w W b sv sv' L) (hk : W.heap[k]? = some (.cells cs t (0, 0))) (h1 : t ≠ 103) (h2 : t ≠ 55) (hw : w.heap.size ≤ k) (v : Value) : RStep w (W.setCell ⟨k, i, none⟩ v) b sv sv' L :=
  ⟨h.st.keep (S := [k]) ((Fr.refl _ _).setCell (a := ⟨k, i, none⟩) (Or.inr (by simp)) v) (fun x hx c => by simp at c; subst c; exact h.st.notin hk h1 h2 hx), h.fr.setCell (a := ⟨k, i, none⟩) (Or.inl hw) v, h.place⟩
theorem rmake_ok {b : Nat} {sv : Value} {L : List Tm} {w : World} (h : Rs w b sv L) (k n x y : Int) (ht : Tm.ok ⟨k, n, x, y⟩) (hm : may L.length ⟨k, n, x, y⟩ = true) (hl : L.length < 1048576) :
    Calls Try.prog 28 #[.pointer (some ⟨b, 0, none⟩), .agg #[.int .u8 k, .int .i64 n, .int .i64 x, .int .i64 y]] w fun e w' => e = .returned (.tuple #[.int .i64 (mkN L ⟨k, n, x, y⟩ : Nat), .int .i64 0]) ∧ ∃ sv', RStep w w' b sv sv' (mkL L ⟨k, n, x, y⟩) := by
  refine (rmake_any b sv L ⟨k, n, x, y⟩ w h ht).mono ?_
  rintro e w' ⟨rfl, s⟩
  rw [(mk_ok hm hl).1]
  exact ⟨rfl, s⟩
set_option maxRecDepth 100000 in
theorem rone_any {b : Nat} {sv : Value} {L : List Tm} {w : World} (h : Rs w b sv L) (z : Int) (hz : -9223372036854775808 ≤ z ∧ z ≤ 9223372036854775807) (hl : L.length < 1048576) :
    Calls Try.prog 37 #[.pointer (some ⟨b, 0, none⟩), .int .i64 z] w fun e w' => e = .returned (.int .i64 (mkN L ⟨2, z, 0, 0⟩ : Nat)) ∧ ∃ sv', RStep w w' b sv sv' (mkL L ⟨2, z, 0, 0⟩) := by
  have K := hide (rmake_ok h 2 z 0 0 ⟨by simp, by simp, hz.1, hz.2, by simp, by simp, by simp, by simp⟩ (may_dat _ _) hl)
  obtain ⟨n, hn⟩ : ∃ n : Nat, n = mkN L ⟨2, z, 0, 0⟩ := ⟨_, rfl⟩
  rw [← hn] at K ⊢
  clear h hl hn hz
  go_enter Try.func37, Try.ntmps37
  go_wp2_with fail
  refine (unhide K).mono ?_
  rintro e w1 ⟨rfl, s⟩
  have S := hide s
  clear s K
  go_wp2
  go_ret
  exact ⟨rfl, unhide S⟩
set_option maxRecDepth 100000 in
theorem rkdf_any {b : Nat} {sv : Value} {L : List Tm} {w : World} (h : Rs w b sv L) (l s c : Int) (ho : Tm.ok ⟨4, l, s, c⟩) (hm : may L.length ⟨4, l, s, c⟩ = true) (hl : L.length < 1048576) :
    Calls Try.prog 45 #[.pointer (some ⟨b, 0, none⟩), .int .i64 l, .int .i64 s, .int .i64 c] w fun e w' => e = .returned (.int .i64 (mkN L ⟨4, l, s, c⟩ : Nat)) ∧ ∃ sv', RStep w w' b sv sv' (mkL L ⟨4, l, s, c⟩) := by
  have K := hide (rmake_ok h 4 l s c ho hm hl)
  obtain ⟨n, hn⟩ : ∃ n : Nat, n = mkN L ⟨4, l, s, c⟩ := ⟨_, rfl⟩
  rw [← hn] at K ⊢
  clear h hl hn ho hm
  go_enter Try.func45, Try.ntmps45
  go_wp2_with fail
  refine (unhide K).mono ?_
  rintro e w1 ⟨rfl, s⟩
  have S := hide s
  clear s K
  go_wp2
  go_ret
  exact ⟨rfl, unhide S⟩
set_option maxRecDepth 100000 in
theorem rpub_any {b : Nat} {sv : Value} {L : List Tm} {w : World} (h : Rs w b sv L) (s : Int) (ho : Tm.ok ⟨5, 0, s, 0⟩) (hm : may L.length ⟨5, 0, s, 0⟩ = true) (hl : L.length < 1048576) :
    Calls Try.prog 49 #[.pointer (some ⟨b, 0, none⟩), .int .i64 s] w fun e w' => e = .returned (.int .i64 (mkN L ⟨5, 0, s, 0⟩ : Nat)) ∧ ∃ sv', RStep w w' b sv sv' (mkL L ⟨5, 0, s, 0⟩) := by
  have K := hide (rmake_ok h 5 0 s 0 ho hm hl)
  obtain ⟨n, hn⟩ : ∃ n : Nat, n = mkN L ⟨5, 0, s, 0⟩ := ⟨_, rfl⟩
  rw [← hn] at K ⊢
  clear h hl hn ho hm
  go_enter Try.func49, Try.ntmps49
  go_wp2_with fail
  refine (unhide K).mono ?_
  rintro e w1 ⟨rfl, s⟩
  have S := hide s
  clear s K
  go_wp2
  go_ret
  exact ⟨rfl, unhide S⟩
end Go.Proofs.Ytokdflbajnecpaa.Tn
namespace Go.Proofs.Ytokdflbajnecpaa.Tn.Ax
open Go.RowKit Go.Maps
theorem cells_three (w : World) (x0 x1 x2 : Value) (t : TypeId) : ∀ j u, [x0, x1, x2][j]? = some u → (w.alloc (.cells #[x0, x1, x2] t)).cell? ((⟨w.heap.size, 0, none⟩ : Addr).add j) = some u := by
  intro j u hj
  match j, hj with
  | 0, hj => cases hj; exact blk_cell (heap_alloc_new w _) rfl
  | 1, hj => cases hj; exact blk_cell (heap_alloc_new w _) rfl
  | 2, hj => cases hj; exact blk_cell (heap_alloc_new w _) rfl
/-- The document's store and a row of numbers, made since. -/
structure RQ (w W : World) (b : Nat) (sv sv' : Value) (L' : List Tm) (lv : Value) (acc : List Nat) : Prop where
  s : RStep w W b sv sv' L'
  r : NRow w.heap.size W lv acc
theorem RQ.step {w W W' : World} {b : Nat} {sv sv1 sv2 : Value} {L1 L2 : List Tm} {lv : Value} {acc : List Nat} (h : RQ w W b sv sv1 L1 lv acc) (s : RStep W W' b sv1 sv2 L2) : RQ w W' b sv sv2 L2 lv acc :=
  ⟨h.s.trans s, h.r.keep (fun k hk => by obtain ⟨cur, e⟩ := h.r.block hk; exact s.fr.block k (lt_of_blk e) (h.s.st.notin e (by decide) (by decide)))⟩
theorem RQ.bw {w W W' : World} {b : Nat} {sv sv1 : Value} {L1 : List Tm} {lv : Value} {acc : List Nat} (h : RQ w W b sv sv1 L1 lv acc) (hb : Below W.heap.size W W') : RQ w W' b sv sv1 L1 lv acc := h.step (RStep.same h.s.st hb)
theorem RQ.grown {w W W5 : World} {b : Nat} {sv sv1 : Value} {L1 : List Tm} {lv v' : Value} {acc acc' : List Nat} {ob : Obj} (h : RQ w W b sv sv1 L1 lv acc) (hr : NRow w.heap.size W5 v' acc') (hg : (W.alloc ob).grownBy W5 lv.ownBlock) : RQ w W5 b sv sv1 L1 v' acc' := by
  have f1 : Fr lv.ownBlock.toList W W5 := ((Fr.refl lv.ownBlock.toList W).alloc ob).tr (Fr.ofGrown hg)
  exact ⟨⟨h.s.st.keep f1 (fun k hk c => by
      obtain ⟨cur, e⟩ := h.r.block (k := k) (by simpa using c)
      exact h.s.st.notin e (by decide) (by decide) hk), h.s.fr.trans f1 (fun _ _ c => c) (fun k hk c => by have := (h.r.lt k (by simpa using c)).1; omega), h.s.place⟩, hr⟩
/-- A row of one number, new. -/
theorem RQ.one {w W : World} {b : Nat} {sv sv1 : Value} {L1 : List Tm} (h : RStep w W b sv sv1 L1) (n : Nat) : RQ w (W.alloc (.cells #[.int .i64 (n : Int)] 3)) b sv sv1 L1 (.slice (some ⟨W.heap.size, 0, none⟩) 1 1) [n] := by
  refine ⟨h.trans (RStep.same h.st (bwA' _ _)), ?_⟩
  refine ⟨by simp, Or.inr ⟨W.heap.size, 1, _, rfl, h.fr.size, heap_alloc_new W _, ?_⟩⟩
  simp [maxLen]
end Go.Proofs.Ytokdflbajnecpaa.Tn.Ax
