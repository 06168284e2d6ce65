/- Texts joined: ScA ScB ScC NTmAc. -/
import Derived.Test.YtokdflbajnecpaaZ03
import Derived.Test.YtokdflbajnecpaaZ02
import Derived.Test.YtokdflbajnecpaaZ01
/- Package hold: is a store there, has it a term; terms made where there is room. -/
namespace Go.Proofs.Ytokdflbajnecpaa.Tn
open Go.RowKit Go.Maps
theorem bwA' (w : World) (o : Obj) : Below w.heap.size w (w.alloc o) := (Below.refl _ _).alloc (Nat.le_refl _) _
theorem make_ok {b : Nat} {sv : Value} {mb : Nat} {L : List Tm} {w : World} (h : St w b sv mb L) (k n x y : Int) (ht : Tm.ok ⟨k, n, x, y⟩) (hm : may L.length ⟨k, n, x, y⟩ = true) (hl : L.length < 1048576) :
    Calls Try.prog 27 #[.pointer (some ⟨b, 0, none⟩), .agg #[.int .u8 k, .int .i64 n, .int .i64 x, .int .i64 y]] w fun e w' => e = .returned (.tuple #[.int .i64 (mkN L ⟨k, n, x, y⟩ : Nat), .int .i64 0]) ∧ ∃ sv', SStep w w' b sv sv' mb (mkL L ⟨k, n, x, y⟩) := by
  refine (make_any b sv mb L ⟨k, n, x, y⟩ w h ht).mono ?_
  rintro e w' ⟨rfl, s⟩
  rw [(mk_ok hm hl).1]
  exact ⟨rfl, s⟩
theorem mkN_thr {L : List Tm} {t : Tm} (hm : may L.length t = true) (hl : L.length < 1048576) : thr (mkL L t).length (mkN L t : Nat) = true ∧ (mkN L t : Int) ≤ 1048577 := by
  obtain ⟨_, h2, h3⟩ := mk_ok hm hl
  have := num_get h3
  have := num_le (mkL L t) t
  have := mkL_len L t
  rw [h2]
  exact ⟨thr_iff.2 (by omega), by omega⟩
set_option maxRecDepth 100000 in
set_option maxHeartbeats 2000000 in
theorem list_empty {b : Nat} {sv : Value} {mb : Nat} {L : List Tm} {w : World} (h : St w b sv mb L) :
    Calls Try.prog 63 #[.pointer (some ⟨b, 0, none⟩), .slice none 0 0] w fun e w' => e = .returned (.tuple #[.int .i64 0, .int .i64 0]) ∧ w' = w := by
  have K := hide (missing_any b sv mb L w h)
  clear h
  go_enter Try.func63, Try.ntmps63
  go_wp2_with fail
  refine (unhide K).mono ?_
  rintro e w ⟨rfl, rfl⟩
  clear K
  go_wp2
  refine wp_loop_rounds 1 ?_
  rw [rounds_succ]
  go_wp2
  go_ret2
  exact ⟨rfl, rfl⟩
set_option maxRecDepth 100000 in
theorem hmissing_any {b : Nat} {sv : Value} {mb : Nat} {L : List Tm} {w : World} (h : St w b sv mb L) :
    Calls Try.prog 31 #[.pointer (some ⟨b, 0, none⟩)] w fun e w' => e = .returned (.bool false) ∧ w' = w := by
  have K := hide (list_empty h)
  clear h
  go_enter Try.func31, Try.ntmps31
  go_wp2_with fail
  refine (unhide K).mono ?_
  rintro e w ⟨rfl, rfl⟩
  clear K
  go_wp2
  go_ret
  exact ⟨rfl, rfl⟩
set_option maxRecDepth 100000 in
theorem hhas_any {b : Nat} {sv : Value} {mb : Nat} {L : List Tm} {w : World} (h : St w b sv mb L) (x : Int) :
    Calls Try.prog 39 #[.pointer (some ⟨b, 0, none⟩), .int .i64 x] w fun e w' => e = .returned (.bool (thr L.length x)) ∧ Below w.heap.size w w' := by
  have K := hide (get_any b sv mb L x w h)
  clear h
  generalize thr L.length x = r at *
  generalize getT L x = t at *
  go_enter Try.func39, Try.ntmps39
  go_wp2_with fail
  refine (unhide K).mono ?_
  rintro e w1 ⟨rfl, y⟩
  clear K
  go_wp2
  go_ret
  exact ⟨rfl, y.alloc y.size _⟩
end Go.Proofs.Ytokdflbajnecpaa.Tn

/- The contract of sched.secrets. -/
namespace Go.Proofs.Ytokdflbajnecpaa.Tn
open Go.RowKit Go.Maps
def s5 (L : List Tm) (E : Int) : List Tm := mkL L ⟨4, 5, E, 0⟩
theorem St.notin {w : World} {b : Nat} {sv : Value} {mb : Nat} {L : List Tm} {k : Nat} {cs : Array Value} {t : TypeId} (h : St w b sv mb L) (hk : w.heap[k]? = some (.cells cs t (0, 0))) (h1 : t ≠ 101) (h2 : t ≠ 55) : k ∉ foot b sv mb := by
  intro c
  rcases mem_foot.1 c with rfl | rfl | c
  · rw [h.blk] at hk; injection hk with hk; injection hk with _ hk; exact h1 hk.symm
  · obtain ⟨es, cl, e⟩ := h.map.block; rw [e] at hk; cases hk
  · obtain ⟨cur, e⟩ := h.row.block c; rw [e] at hk; injection hk with hk; injection hk with _ hk; exact h2 hk.symm
theorem kept_blk {w w' : World} {k : Nat} {o : Obj} (h : w.heap[k]? = some o) (hb : Below w.heap.size w w') : w'.heap[k]? = some o := by rw [hb.block k (lt_of_blk h)]; exact h
theorem kept_fr {w w' : World} {b : Nat} {sv : Value} {mb : Nat} {L : List Tm} {k : Nat} {cs : Array Value} {t : TypeId} (h : w.heap[k]? = some (.cells cs t (0, 0))) (hs : St w b sv mb L) (hf : Fr (foot b sv mb) w w') (h1 : t ≠ 101) (h2 : t ≠ 55) : w'.heap[k]? = some (.cells cs t (0, 0)) := by rw [hf.block k (lt_of_blk h) (hs.notin h h1 h2)]; exact h
theorem SStep.poke {w W : World} {b : Nat} {sv sv' : Value} {mb : Nat} {L : List Tm} {k i : Nat} {cs : Array Value} {t : TypeId} (h : SStep w W b sv sv' mb L) (hk : W.heap[k]? = some (.cells cs t (0, 0))) (h1 : t ≠ 101) (h2 : t ≠ 55) (hw : w.heap.size ≤ k) (v : Value) : SStep w (W.setCell ⟨k, i, none⟩ v) b sv sv' mb L :=
  ⟨h.st.keep (S := [k]) ((Fr.refl _ _).setCell (a := ⟨k, i, none⟩) (Or.inr (by simp)) v) (fun x hx c => by simp at c; subst c; exact h.st.notin hk h1 h2 hx), h.fr.setCell (a := ⟨k, i, none⟩) (Or.inl hw) v, h.place⟩
theorem poke_blk {W : World} {k i : Nat} {cs : Array Value} {t : TypeId} (hk : W.heap[k]? = some (.cells cs t (0, 0))) (v : Value) : (W.setCell ⟨k, i, none⟩ v).heap[k]? = some (.cells (cs.setIfInBounds i v) t (0, 0)) := by
  simp [World.setCell, Array.getElem?_modify, hk]
theorem row_other {W : World} {k j : Nat} (new : Array Value) (hj : j ≠ k) : (W.setRow j new).heap[k]? = W.heap[k]? := by
  simp only [World.setRow, Array.getElem?_modify, if_neg hj]
theorem SStep.row {w W : World} {b : Nat} {sv sv' : Value} {mb : Nat} {L : List Tm} {k : Nat} {cs : Array Value} {t : TypeId} (h : SStep w W b sv sv' mb L) (hk : W.heap[k]? = some (.cells cs t (0, 0))) (h1 : t ≠ 101) (h2 : t ≠ 55) (hw : w.heap.size ≤ k) (new : Array Value) : SStep w (W.setRow k new) b sv sv' mb L := by
  have hs : (W.setRow k new).heap.size = W.heap.size := by simp [World.setRow]
  have f1 : Fr [k] W (W.setRow k new) := ⟨rfl, rfl, rfl, by rw [hs]; exact Nat.le_refl _, fun x _ hx => row_other new (fun c => hx (by simp [c]))⟩
  refine ⟨h.st.keep f1 (fun x hx c => by simp at c; subst c; exact h.st.notin hk h1 h2 hx), ?_, h.place⟩
  exact h.fr.trans f1 (fun _ _ c => c) (fun x hx c => by simp at c; omega)
theorem blk_cell {W : World} {k i : Nat} {cs : Array Value} {t : TypeId} {v : Value} (hk : W.heap[k]? = some (.cells cs t (0, 0))) (h : cs[i]? = some v) : W.cell? ⟨k, i, none⟩ = some v := by
  simp [World.cell?, hk, h]
theorem blk_froz {W : World} {k i : Nat} {cs : Array Value} {t : TypeId} (hk : W.heap[k]? = some (.cells cs t (0, 0))) : W.frozen? ⟨k, i, none⟩ = false := by
  simp [World.frozen?, hk]
theorem may_kdf {N : Nat} {l s c : Int} (hl : 0 ≤ l) (hs : thr N s = true) (hc : c = 0 ∨ thr N c = true) : may N ⟨4, l, s, c⟩ = true := by
  unfold may
  simp [hl, hs]
  exact hc
theorem ok_kdf {l s c : Int} (h : 0 ≤ l ∧ l ≤ 100 ∧ 0 ≤ s ∧ s ≤ 1048577 ∧ 0 ≤ c ∧ c ≤ 1048577) : Tm.ok ⟨4, l, s, c⟩ := by
  constructor <;> simp <;> omega
theorem thr_rng {N : Nat} {x : Int} (h : thr N x = true) (hN : N ≤ 1048576) : 0 ≤ x ∧ x ≤ 1048577 := by have := thr_iff.1 h; omega
end Go.Proofs.Ytokdflbajnecpaa.Tn

/- The contracts of sched.Next and sched.From. -/
namespace Go.Proofs.Ytokdflbajnecpaa.Tn
open Go.RowKit Go.Maps
theorem heap_size_alloc (w : World) (o : Obj) : (w.alloc o).heap.size = w.heap.size + 1 := by simp
theorem blk_before {w : World} {k : Nat} {o o' : Obj} (h : w.heap[k]? = some o) : (w.alloc o').heap[k]? = some o := by rw [Below.heap_alloc _ _ _ (lt_of_blk h)]; exact h
end Go.Proofs.Ytokdflbajnecpaa.Tn

/- What Across keeps in memory. No walk is in this text. -/
namespace Go.Proofs.Ytokdflbajnecpaa.Tn
open Go.RowKit Go.Maps
structure Ac (w wr : World) (b : Nat) (sv : Value) (mb rb : Nat) (rv : Value) (L R : List Tm) (mp : Nat) (lv : Value) (ph : List Nat) : Prop where
  two : Two w wr b sv mb rb rv L R
  blk : wr.heap[mp]? = some (.cells #[lv] 89 (0, 0))
  row : NRow 0 wr lv ph
  mlow : w.heap.size ≤ mp
  llow : ∀ k, lv.ownBlock = some k → w.heap.size ≤ k
theorem Ac.apart {w wr : World} {b : Nat} {sv : Value} {mb rb : Nat} {rv : Value} {L R : List Tm} {mp : Nat} {lv : Value} {ph : List Nat} (h : Ac w wr b sv mb rb rv L R mp lv ph) :
    lv.ownBlock ≠ some mp ∧ mp ∉ foot b sv mb ∧ mp ∉ rfoot rb rv ∧ (∀ k, lv.ownBlock = some k → k ∉ foot b sv mb) ∧ ∀ k, lv.ownBlock = some k → k ∉ rfoot rb rv := by
  refine ⟨fun c => ?_, fun c => ?_, fun c => ?_, h.row.foot h.two.st, fun k hk c => ?_⟩
  · obtain ⟨_, h1⟩ := h.row.block c; rw [h.blk] at h1; simp at h1
  · rcases mem_foot.1 c with e | e | e
    · have := h.two.st.blk; rw [← e, h.blk] at this; simp at this
    · obtain ⟨es, ck, hm⟩ := h.two.st.map.block; rw [← e, h.blk] at hm; simp at hm
    · obtain ⟨_, h1⟩ := h.two.st.row.block e; rw [h.blk] at h1; simp at h1
  · rcases mem_rfoot.1 c with e | e
    · have := h.two.rs.blk; rw [← e, h.blk] at this; simp at this
    · obtain ⟨_, h1⟩ := h.two.rs.row.block e; rw [h.blk] at h1; simp at h1
  · obtain ⟨_, h1⟩ := h.row.block hk
    rcases mem_rfoot.1 c with e | e
    · have := h.two.rs.blk; rw [← e, h1] at this; simp at this
    · exact rows_apart h.two.rs.row h.row e hk
theorem Ac.new {w wr w1 : World} {b : Nat} {sv : Value} {mb rb : Nat} {rv : Value} {L R : List Tm} {mp : Nat} {lv : Value} {ph : List Nat} (h : Ac w wr b sv mb rb rv L R mp lv ph) (hb : Below wr.heap.size wr w1) : Ac w w1 b sv mb rb rv L R mp lv ph :=
  ⟨h.two.new hb, by rw [hb.block mp (lt_of_blk h.blk)]; exact h.blk, h.row.keep (fun k hk => hb.block k (h.row.lt k hk).2), h.mlow, h.llow⟩
theorem Ac.start {w wr : World} {b : Nat} {sv : Value} {mb rb : Nat} {rv : Value} {L R : List Tm} (h : Two w wr b sv mb rb rv L R) :
    Ac w ((wr.alloc (.cells #[.int .i64 0] 3)).alloc (.cells #[.slice (some ⟨wr.heap.size, 0, none⟩) 1 1] 89)) b sv mb rb rv L R (wr.heap.size + 1) (.slice (some ⟨wr.heap.size, 0, none⟩) 1 1) [0] := by
  have e : (wr.alloc (.cells #[.int .i64 0] 3)).heap.size = wr.heap.size + 1 := by simp
  have hs := h.bel.size
  refine ⟨h.new (((Below.refl _ _).alloc (Nat.le_refl _) _).alloc (by simp) _), ?_, ?_, by omega, ?_⟩
  · rw [← e]; exact heap_alloc_new _ _
  · refine ⟨rfl, Or.inr ⟨wr.heap.size, 1, #[.int .i64 0], rfl, Nat.zero_le _, ?_, Nat.le_refl _, by unfold maxLen; omega, rfl, rfl⟩⟩
    rw [Below.heap_alloc _ _ _ (by simp)]; exact heap_alloc_new _ _
  · intro k hk
    simp [Value.ownBlock] at hk
    omega
theorem Ac.cells {w wr : World} {b : Nat} {sv : Value} {mb rb : Nat} {rv : Value} {L R : List Tm} {mp : Nat} {lv : Value} {ph : List Nat} (h : Ac w wr b sv mb rb rv L R mp lv ph) : wr.cell? ⟨mp, 0, none⟩ = some lv ∧ wr.frozen? ⟨mp, 0, none⟩ = false := by
  refine ⟨?_, ?_⟩ <;> simp [World.cell?, World.frozen?, h.blk]
theorem Ac.at {w wr : World} {b : Nat} {sv : Value} {mb rb : Nat} {rv : Value} {L R : List Tm} {mp g n cap : Nat} {ph : List Nat} (h : Ac w wr b sv mb rb rv L R mp (.slice (some ⟨g, 0, none⟩) n cap) ph) {i : Nat} (hi : i < ph.length) : wr.cell? ⟨g, i, none⟩ = some (.int .i64 ((ph.getD i 0 : Nat) : Int)) :=
  h.row.at rfl (by simp [List.getD, List.getElem?_eq_getElem hi])
end Go.Proofs.Ytokdflbajnecpaa.Tn
