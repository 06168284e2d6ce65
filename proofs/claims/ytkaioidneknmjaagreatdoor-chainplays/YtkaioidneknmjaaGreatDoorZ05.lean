/- Texts joined: ScA ScB ScC NTmAc. -/
import Derived.Test.YtkaioidneknmjaaGreatDoorZ03
import Derived.Test.YtkaioidneknmjaaGreatDoorZ02
import Derived.Test.YtkaioidneknmjaaGreatDoorZ01
/- Package hold: is a store there, has it a term; terms made where there is room. -/
namespace Go.Proofs.YtkaioidneknmjaaGreatDoor.Tn
open Go.RowKit Go.Maps

theorem bwA' (w : World) (o : Obj) : Below w.heap.size w (w.alloc o) := (Below.refl _ _).alloc (Nat.le_refl _) _
theorem make_ok {b : Nat} {sv : Value} {mb : Nat} {L : List Tm} {w : World} (h : St w b sv mb L) (k n x y : Int) (ht : Tm.ok ⟨k, n, x, y⟩) (hm : may L.length ⟨k, n, x, y⟩ = true) (hl : L.length < 1048576) :
    Calls Tryz.prog 18 #[.pointer (some ⟨b, 0, none⟩), .agg #[.int .u8 k, .int .i64 n, .int .i64 x, .int .i64 y]] w fun e w' => e = .returned (.tuple #[.int .i64 (mkN L ⟨k, n, x, y⟩ : Nat), .int .i64 0]) ∧ ∃ sv', SStep w w' b sv sv' mb (mkL L ⟨k, n, x, y⟩) := by
  refine (make_any b sv mb L ⟨k, n, x, y⟩ w h ht).mono ?_
  rintro e w' ⟨rfl, s⟩
  rw [(mk_ok hm hl).1]
  exact ⟨rfl, s⟩
theorem mkN_thr {L : List Tm} {t : Tm} (hm : may L.length t = true) (hl : L.length < 1048576) : thr (mkL L t).length (mkN L t : Nat) = true ∧ (mkN L t : Int) ≤ 1048577 := by
  obtain ⟨_, h2, h3⟩ := mk_ok hm hl
  have := num_get h3
  have := num_le (mkL L t) t
  have := mkL_len L t
  rw [h2]
  exact ⟨thr_iff.2 (by omega), by omega⟩
set_option maxRecDepth 100000 in
set_option maxHeartbeats 2000000 in
theorem list_empty {b : Nat} {sv : Value} {mb : Nat} {L : List Tm} {w : World} (h : St w b sv mb L) :
    Calls Tryz.prog 140 #[.pointer (some ⟨b, 0, none⟩), .slice none 0 0] w fun e w' => e = .returned (.tuple #[.int .i64 0, .int .i64 0]) ∧ w' = w := by
  have K := hide (missing_any b sv mb L w h)
  clear h
  go_enter Tryz.func140, Tryz.ntmps140
  go_wp2_with fail
  refine (unhide K).mono ?_
  rintro e w ⟨rfl, rfl⟩
  clear K
  go_wp2
  refine wp_loop_rounds 1 ?_
  rw [rounds_succ]
  go_wp2
  go_ret2
  exact ⟨rfl, rfl⟩
set_option maxRecDepth 100000 in
theorem hmissing_any {b : Nat} {sv : Value} {mb : Nat} {L : List Tm} {w : World} (h : St w b sv mb L) :
    Calls Tryz.prog 20 #[.pointer (some ⟨b, 0, none⟩)] w fun e w' => e = .returned (.bool false) ∧ w' = w := by
  have K := hide (list_empty h)
  clear h
  go_enter Tryz.func20, Tryz.ntmps20
  go_wp2_with fail
  refine (unhide K).mono ?_
  rintro e w ⟨rfl, rfl⟩
  clear K
  go_wp2
  go_ret
  exact ⟨rfl, rfl⟩
set_option maxRecDepth 100000 in
theorem list_nostore (w : World) :
    Calls Tryz.prog 140 #[.pointer none, .slice none 0 0] w fun e w' => e = .returned (.tuple #[.int .i64 0, .int .i64 2]) ∧ w' = w := by
  have K := hide (missing_nil w)
  go_enter Tryz.func140, Tryz.ntmps140
  go_wp2_with fail
  refine (unhide K).mono ?_
  rintro e w ⟨rfl, rfl⟩
  clear K
  go_wp2
  go_ret2
  exact ⟨rfl, rfl⟩
set_option maxRecDepth 100000 in
theorem hmissing_nil (w : World) :
    Calls Tryz.prog 20 #[.pointer none] w fun e w' => e = .returned (.bool true) ∧ w' = w := by
  have K := hide (list_nostore w)
  go_enter Tryz.func20, Tryz.ntmps20
  go_wp2_with fail
  refine (unhide K).mono ?_
  rintro e w ⟨rfl, rfl⟩
  clear K
  go_wp2
  go_ret
  exact ⟨rfl, rfl⟩
set_option maxRecDepth 100000 in
theorem hhas_any {b : Nat} {sv : Value} {mb : Nat} {L : List Tm} {w : World} (h : St w b sv mb L) (x : Int) :
    Calls Tryz.prog 21 #[.pointer (some ⟨b, 0, none⟩), .int .i64 x] w fun e w' => e = .returned (.bool (thr L.length x)) ∧ Below w.heap.size w w' := by
  have K := hide (get_any b sv mb L x w h)
  clear h
  generalize thr L.length x = r at *
  generalize getT L x = t at *
  go_enter Tryz.func21, Tryz.ntmps21
  go_wp2_with fail
  refine (unhide K).mono ?_
  rintro e w1 ⟨rfl, y⟩
  clear K
  go_wp2
  go_ret
  exact ⟨rfl, y.alloc y.size _⟩
end Go.Proofs.YtkaioidneknmjaaGreatDoor.Tn

/- The contract of sched.secrets. -/
namespace Go.Proofs.YtkaioidneknmjaaGreatDoor.Tn
open Go.RowKit Go.Maps

/-- The keys of an epoch's secret, in their order. -/
def s5 (L : List Tm) (E : Int) : List Tm := mkL L ⟨4, 5, E, 0⟩
def s6 (L : List Tm) (E : Int) : List Tm := mkL (s5 L E) ⟨4, 6, E, 0⟩
def s7 (L : List Tm) (E : Int) : List Tm := mkL (s6 L E) ⟨4, 7, E, 0⟩
def s8 (L : List Tm) (E : Int) : List Tm := mkL (s7 L E) ⟨4, 8, E, 0⟩
/-- An epoch's secrets: the terms then, and the six numbers. -/
def secE (L : List Tm) (j c : Int) : Nat := mkN L ⟨4, 4, j, c⟩
def secL (L : List Tm) (j c : Int) : List Tm := s8 (mkL L ⟨4, 4, j, c⟩) (secE L j c)
def secV (L : List Tm) (j c : Int) : List Int :=
  [j, (secE L j c : Nat), (mkN (mkL L ⟨4, 4, j, c⟩) ⟨4, 5, (secE L j c : Nat), 0⟩ : Nat), (mkN (s5 (mkL L ⟨4, 4, j, c⟩) (secE L j c)) ⟨4, 6, (secE L j c : Nat), 0⟩ : Nat),
    (mkN (s6 (mkL L ⟨4, 4, j, c⟩) (secE L j c)) ⟨4, 7, (secE L j c : Nat), 0⟩ : Nat), (mkN (s7 (mkL L ⟨4, 4, j, c⟩) (secE L j c)) ⟨4, 8, (secE L j c : Nat), 0⟩ : Nat)]
def secA (l : List Int) : Value := .agg (l.map fun z => Value.int .i64 z).toArray
theorem St.notin {w : World} {b : Nat} {sv : Value} {mb : Nat} {L : List Tm} {k : Nat} {cs : Array Value} {t : TypeId} (h : St w b sv mb L) (hk : w.heap[k]? = some (.cells cs t (0, 0))) (h1 : t ≠ 120) (h2 : t ≠ 89) : k ∉ foot b sv mb := by
  intro c
  rcases mem_foot.1 c with rfl | rfl | c
  · rw [h.blk] at hk; injection hk with hk; injection hk with _ hk; exact h1 hk.symm
  · obtain ⟨es, cl, e⟩ := h.map.block; rw [e] at hk; cases hk
  · obtain ⟨cur, e⟩ := h.row.block c; rw [e] at hk; injection hk with hk; injection hk with _ hk; exact h2 hk.symm
theorem kept_blk {w w' : World} {k : Nat} {o : Obj} (h : w.heap[k]? = some o) (hb : Below w.heap.size w w') : w'.heap[k]? = some o := by rw [hb.block k (lt_of_blk h)]; exact h
theorem kept_fr {w w' : World} {b : Nat} {sv : Value} {mb : Nat} {L : List Tm} {k : Nat} {cs : Array Value} {t : TypeId} (h : w.heap[k]? = some (.cells cs t (0, 0))) (hs : St w b sv mb L) (hf : Fr (foot b sv mb) w w') (h1 : t ≠ 120) (h2 : t ≠ 89) : w'.heap[k]? = some (.cells cs t (0, 0)) := by rw [hf.block k (lt_of_blk h) (hs.notin h h1 h2)]; exact h
theorem SStep.poke {w W : World} {b : Nat} {sv sv' : Value} {mb : Nat} {L : List Tm} {k i : Nat} {cs : Array Value} {t : TypeId} (h : SStep w W b sv sv' mb L) (hk : W.heap[k]? = some (.cells cs t (0, 0))) (h1 : t ≠ 120) (h2 : t ≠ 89) (hw : w.heap.size ≤ k) (v : Value) : SStep w (W.setCell ⟨k, i, none⟩ v) b sv sv' mb L :=
  ⟨h.st.keep (S := [k]) ((Fr.refl _ _).setCell (a := ⟨k, i, none⟩) (Or.inr (by simp)) v) (fun x hx c => by simp at c; subst c; exact h.st.notin hk h1 h2 hx), h.fr.setCell (a := ⟨k, i, none⟩) (Or.inl hw) v, h.place⟩
theorem poke_blk {W : World} {k i : Nat} {cs : Array Value} {t : TypeId} (hk : W.heap[k]? = some (.cells cs t (0, 0))) (v : Value) : (W.setCell ⟨k, i, none⟩ v).heap[k]? = some (.cells (cs.setIfInBounds i v) t (0, 0)) := by
  simp [World.setCell, Array.getElem?_modify, hk]
theorem poke_other {W : World} {k i j : Nat} {o : Obj} (hk : W.heap[k]? = some o) (v : Value) (hj : j ≠ k) : (W.setCell ⟨j, i, none⟩ v).heap[k]? = some o := by
  rw [Below.heap_setCell _ _ _ _ (by simp; exact fun c => hj c.symm)]; exact hk
theorem row_blk {W : World} {k : Nat} {cs : Array Value} {t : TypeId} (hk : W.heap[k]? = some (.cells cs t (0, 0))) (new : Array Value) : (W.setRow k new).heap[k]? = some (.cells new t (0, 0)) := by
  simp only [World.setRow, Array.getElem?_modify, hk]
  simp
theorem row_other {W : World} {k j : Nat} (new : Array Value) (hj : j ≠ k) : (W.setRow j new).heap[k]? = W.heap[k]? := by
  simp only [World.setRow, Array.getElem?_modify, if_neg hj]
theorem SStep.row {w W : World} {b : Nat} {sv sv' : Value} {mb : Nat} {L : List Tm} {k : Nat} {cs : Array Value} {t : TypeId} (h : SStep w W b sv sv' mb L) (hk : W.heap[k]? = some (.cells cs t (0, 0))) (h1 : t ≠ 120) (h2 : t ≠ 89) (hw : w.heap.size ≤ k) (new : Array Value) : SStep w (W.setRow k new) b sv sv' mb L := by
  have hs : (W.setRow k new).heap.size = W.heap.size := by simp [World.setRow]
  have f1 : Fr [k] W (W.setRow k new) := ⟨rfl, rfl, rfl, by rw [hs]; exact Nat.le_refl _, fun x _ hx => row_other new (fun c => hx (by simp [c]))⟩
  refine ⟨h.st.keep f1 (fun x hx c => by simp at c; subst c; exact h.st.notin hk h1 h2 hx), ?_, h.place⟩
  exact h.fr.trans f1 (fun _ _ c => c) (fun x hx c => by simp at c; omega)
theorem blk_cell {W : World} {k i : Nat} {cs : Array Value} {t : TypeId} {v : Value} (hk : W.heap[k]? = some (.cells cs t (0, 0))) (h : cs[i]? = some v) : W.cell? ⟨k, i, none⟩ = some v := by
  simp [World.cell?, hk, h]
theorem blk_froz {W : World} {k i : Nat} {cs : Array Value} {t : TypeId} (hk : W.heap[k]? = some (.cells cs t (0, 0))) : W.frozen? ⟨k, i, none⟩ = false := by
  simp [World.frozen?, hk]
theorem SStep.six {w W : World} {b : Nat} {sv sv' : Value} {mb : Nat} {L : List Tm} {k : Nat} {a0 a1 a2 a3 a4 a5 : Value} {t : TypeId} (h : SStep w W b sv sv' mb L) (hk : W.heap[k]? = some (.cells #[a0, a1, a2, a3, a4, a5] t (0, 0))) (h1 : t ≠ 120) (h2 : t ≠ 89) (hw : w.heap.size ≤ k) (v0 v1 v2 v3 v4 v5 : Value) :
    SStep w ((((((W.setCell ⟨k, 0, none⟩ v0).setCell ⟨k, 1, none⟩ v1).setCell ⟨k, 2, none⟩ v2).setCell ⟨k, 3, none⟩ v3).setCell ⟨k, 4, none⟩ v4).setCell ⟨k, 5, none⟩ v5) b sv sv' mb L ∧ ((((((W.setCell ⟨k, 0, none⟩ v0).setCell ⟨k, 1, none⟩ v1).setCell ⟨k, 2, none⟩ v2).setCell ⟨k, 3, none⟩ v3).setCell ⟨k, 4, none⟩ v4).setCell ⟨k, 5, none⟩ v5).heap[k]? = some (.cells #[v0, v1, v2, v3, v4, v5] t (0, 0)) := by
  have e0 := poke_blk (i := 0) hk v0
  have e1 := poke_blk (i := 1) e0 v1
  have e2 := poke_blk (i := 2) e1 v2
  have e3 := poke_blk (i := 3) e2 v3
  have e4 := poke_blk (i := 4) e3 v4
  have e5 := poke_blk (i := 5) e4 v5
  exact ⟨(((((h.poke hk h1 h2 hw v0).poke e0 h1 h2 hw v1).poke e1 h1 h2 hw v2).poke e2 h1 h2 hw v3).poke e3 h1 h2 hw v4).poke e4 h1 h2 hw v5, e5⟩
theorem may_kdf {N : Nat} {l s c : Int} (hl : 0 ≤ l) (hs : thr N s = true) (hc : c = 0 ∨ thr N c = true) : may N ⟨4, l, s, c⟩ = true := by
  unfold may
  simp [hl, hs]
  exact hc
theorem ok_kdf {l s c : Int} (h : 0 ≤ l ∧ l ≤ 100 ∧ 0 ≤ s ∧ s ≤ 1048577 ∧ 0 ≤ c ∧ c ≤ 1048577) : Tm.ok ⟨4, l, s, c⟩ := by
  constructor <;> simp <;> omega
theorem thr_rng {N : Nat} {x : Int} (h : thr N x = true) (hN : N ≤ 1048576) : 0 ≤ x ∧ x ≤ 1048577 := by have := thr_iff.1 h; omega
end Go.Proofs.YtkaioidneknmjaaGreatDoor.Tn

/- The contracts of sched.Next and sched.From. -/
namespace Go.Proofs.YtkaioidneknmjaaGreatDoor.Tn
open Go.RowKit Go.Maps

def nxP (L : List Tm) (i c : Int) : Nat := mkN L ⟨3, 0, i, c⟩
def nxJ (L : List Tm) (i c : Int) : Nat := mkN (mkL L ⟨3, 0, i, c⟩) ⟨4, 3, (nxP L i c : Nat), 0⟩
def nxL (L : List Tm) (i c : Int) : List Tm := mkL (mkL L ⟨3, 0, i, c⟩) ⟨4, 3, (nxP L i c : Nat), 0⟩
theorem secA6 (a b c d e f : Int) : secA [a, b, c, d, e, f] = .agg #[.int .i64 a, .int .i64 b, .int .i64 c, .int .i64 d, .int .i64 e, .int .i64 f] := rfl
theorem may_pair {N : Nat} {a b : Int} (ha : thr N a = true) (hb : thr N b = true) : may N ⟨3, 0, a, b⟩ = true := by
  unfold may
  simp [ha, hb]
theorem ok_pair {a b : Int} (h : 0 ≤ a ∧ a ≤ 1048577 ∧ 0 ≤ b ∧ b ≤ 1048577) : Tm.ok ⟨3, 0, a, b⟩ := by
  constructor <;> simp <;> omega
theorem heap_size_alloc (w : World) (o : Obj) : (w.alloc o).heap.size = w.heap.size + 1 := by simp
theorem blk_before {w : World} {k : Nat} {o o' : Obj} (h : w.heap[k]? = some o) : (w.alloc o').heap[k]? = some o := by rw [Below.heap_alloc _ _ _ (lt_of_blk h)]; exact h
theorem blk4 (w : World) (o1 o2 o3 o4 : Obj) : (((((w.alloc o1).alloc o2).alloc o3).alloc o4).heap[w.heap.size]? = some o1) ∧ (((((w.alloc o1).alloc o2).alloc o3).alloc o4).heap[w.heap.size + 1]? = some o2) ∧ (((((w.alloc o1).alloc o2).alloc o3).alloc o4).heap[w.heap.size + 1 + 1]? = some o3) ∧ (((((w.alloc o1).alloc o2).alloc o3).alloc o4).heap[w.heap.size + 1 + 1 + 1]? = some o4) ∧ Below w.heap.size w ((((w.alloc o1).alloc o2).alloc o3).alloc o4) := by
  have h1 := heap_alloc_new w o1
  have h2 := heap_alloc_new (w.alloc o1) o2
  have h3 := heap_alloc_new ((w.alloc o1).alloc o2) o3
  have h4 := heap_alloc_new (((w.alloc o1).alloc o2).alloc o3) o4
  simp only [heap_size_alloc] at h1 h2 h3 h4
  exact ⟨blk_before (blk_before (blk_before h1)), blk_before (blk_before h2), blk_before h3, h4, (((bwA' _ _).alloc (by simp) _).alloc (by simp; omega) _).alloc (by simp; omega) _⟩
theorem blk3 (w : World) (o1 o2 o3 : Obj) : ((((w.alloc o1).alloc o2).alloc o3).heap[w.heap.size]? = some o1) ∧ ((((w.alloc o1).alloc o2).alloc o3).heap[w.heap.size + 1]? = some o2) ∧ ((((w.alloc o1).alloc o2).alloc o3).heap[w.heap.size + 1 + 1]? = some o3) ∧ Below w.heap.size w (((w.alloc o1).alloc o2).alloc o3) := by
  have h1 := heap_alloc_new w o1
  have h2 := heap_alloc_new (w.alloc o1) o2
  have h3 := heap_alloc_new ((w.alloc o1).alloc o2) o3
  simp only [heap_size_alloc] at h1 h2 h3
  exact ⟨blk_before (blk_before h1), blk_before h2, h3, ((bwA' _ _).alloc (by simp) _).alloc (by simp; omega) _⟩
end Go.Proofs.YtkaioidneknmjaaGreatDoor.Tn

/- What Across keeps in memory. No walk is in this text. -/
namespace Go.Proofs.YtkaioidneknmjaaGreatDoor.Tn
open Go.RowKit Go.Maps

structure Ac (w wr : World) (b : Nat) (sv : Value) (mb rb : Nat) (rv : Value) (L R : List Tm) (mp : Nat) (lv : Value) (ph : List Nat) : Prop where
  two : Two w wr b sv mb rb rv L R
  blk : wr.heap[mp]? = some (.cells #[lv] 112 (0, 0))
  row : NRow 0 wr lv ph
  mlow : w.heap.size ≤ mp
  llow : ∀ k, lv.ownBlock = some k → w.heap.size ≤ k
theorem Ac.apart {w wr : World} {b : Nat} {sv : Value} {mb rb : Nat} {rv : Value} {L R : List Tm} {mp : Nat} {lv : Value} {ph : List Nat} (h : Ac w wr b sv mb rb rv L R mp lv ph) :
    lv.ownBlock ≠ some mp ∧ mp ∉ foot b sv mb ∧ mp ∉ rfoot rb rv ∧ (∀ k, lv.ownBlock = some k → k ∉ foot b sv mb) ∧ ∀ k, lv.ownBlock = some k → k ∉ rfoot rb rv := by
  refine ⟨fun c => ?_, fun c => ?_, fun c => ?_, h.row.foot h.two.st, fun k hk c => ?_⟩
  · obtain ⟨_, h1⟩ := h.row.block c; rw [h.blk] at h1; simp at h1
  · rcases mem_foot.1 c with e | e | e
    · have := h.two.st.blk; rw [← e, h.blk] at this; simp at this
    · obtain ⟨es, ck, hm⟩ := h.two.st.map.block; rw [← e, h.blk] at hm; simp at hm
    · obtain ⟨_, h1⟩ := h.two.st.row.block e; rw [h.blk] at h1; simp at h1
  · rcases mem_rfoot.1 c with e | e
    · have := h.two.rs.blk; rw [← e, h.blk] at this; simp at this
    · obtain ⟨_, h1⟩ := h.two.rs.row.block e; rw [h.blk] at h1; simp at h1
  · obtain ⟨_, h1⟩ := h.row.block hk
    rcases mem_rfoot.1 c with e | e
    · have := h.two.rs.blk; rw [← e, h1] at this; simp at this
    · exact rows_apart h.two.rs.row h.row e hk
theorem Ac.new {w wr w1 : World} {b : Nat} {sv : Value} {mb rb : Nat} {rv : Value} {L R : List Tm} {mp : Nat} {lv : Value} {ph : List Nat} (h : Ac w wr b sv mb rb rv L R mp lv ph) (hb : Below wr.heap.size wr w1) : Ac w w1 b sv mb rb rv L R mp lv ph :=
  ⟨h.two.new hb, by rw [hb.block mp (lt_of_blk h.blk)]; exact h.blk, h.row.keep (fun k hk => hb.block k (h.row.lt k hk).2), h.mlow, h.llow⟩
theorem Ac.stepR {w wr w1 : World} {b : Nat} {sv : Value} {mb rb : Nat} {rv rv1 : Value} {L R R1 : List Tm} {mp : Nat} {lv : Value} {ph : List Nat} (h : Ac w wr b sv mb rb rv L R mp lv ph) (s : RStep wr w1 rb rv rv1 R1) : Ac w w1 b sv mb rb rv1 L R1 mp lv ph := by
  obtain ⟨a1, a2, a3, a4, a5⟩ := h.apart
  exact ⟨h.two.stepR s, by rw [s.fr.block mp (lt_of_blk h.blk) a3]; exact h.blk, h.row.keep (fun k hk => s.fr.block k (h.row.lt k hk).2 (a5 k hk)), h.mlow, h.llow⟩
/-- A number is put behind the others, and the new slice is stored. -/
theorem Ac.push {w w1 w2 : World} {b : Nat} {sv : Value} {mb rb : Nat} {rv : Value} {L R : List Tm} {mp : Nat} {lv v' : Value} {ph : List Nat} {k : Nat} {ob : Obj} (h : Ac w w1 b sv mb rb rv L R mp lv ph)
    (hown : w2.ownsRow 0 3 1 v' (ph.length + 1) (ph.map (fun m => .int .i64 ((m : Nat) : Int)) ++ [.int .i64 (k : Int)])) (hg : (w1.alloc ob).grownBy w2 lv.ownBlock) (hat : v'.ownBlock = lv.ownBlock ∨ v'.ownBlock = some (w1.alloc ob).heap.size) :
    w2.cell? ⟨mp, 0, none⟩ = some lv ∧ w2.frozen? ⟨mp, 0, none⟩ = false ∧ Ac w (w2.setCell ⟨mp, 0, none⟩ v') b sv mb rb rv L R mp v' (ph ++ [k]) := by
  obtain ⟨a1, a2, a3, a4, a5⟩ := h.apart
  have f1 : Fr lv.ownBlock.toList w1 w2 := ((Fr.refl lv.ownBlock.toList w1).alloc ob).tr (Fr.ofGrown hg)
  have f2 : Fr (mp :: lv.ownBlock.toList) w1 (w2.setCell ⟨mp, 0, none⟩ v') := (f1.mono (fun x _ c => List.mem_cons_of_mem _ c)).setCell (Or.inr (by simp)) _
  have hs1 := h.two.bel.size
  have hb2 : w2.heap[mp]? = some (.cells #[lv] 112 (0, 0)) := by
    rw [f1.block mp (lt_of_blk h.blk) (fun c => a1 (by simpa using c))]; exact h.blk
  have hne : v'.ownBlock ≠ some mp := by
    rcases hat with c | c
    · rw [c]; exact a1
    · rw [c]; intro e; have := lt_of_blk h.blk; simp at e; omega
  have d1 : ∀ x, x ∈ foot b sv mb → x ∉ mp :: lv.ownBlock.toList := fun x hx c => by
    rcases List.mem_cons.1 c with c | c
    · rw [c] at hx; exact a2 hx
    · exact a4 x (by simpa using c) hx
  have d2 : ∀ x, x ∈ rfoot rb rv → x ∉ mp :: lv.ownBlock.toList := fun x hx c => by
    rcases List.mem_cons.1 c with c | c
    · rw [c] at hx; exact a3 hx
    · exact a5 x (by simpa using c) hx
  refine ⟨by simp [World.cell?, hb2], by simp [World.frozen?, hb2], ⟨⟨h.two.st.keep f2 d1, h.two.rs.keep f2 d2, h.two.low, h.two.rlow, h.two.dis, ?_⟩, by simp [World.setCell, Array.getElem?_modify, hb2], ?_, h.mlow, ?_⟩⟩
  · refine Fr.toBase h.two.bel f2 (fun x hx => ?_)
    rcases List.mem_cons.1 hx with c | c
    · rw [c]; exact h.mlow
    · exact h.llow x (by simpa using c)
  · have hr : NRow 0 w2 v' (ph ++ [k]) := by unfold NRow; simpa using hown
    exact hr.keep fun x hx => Below.heap_setCell _ _ _ _ (fun c => hne (by rw [hx, c]))
  · intro x hx
    rcases hat with c | c
    · exact h.llow x (by rw [← c]; exact hx)
    · rw [c] at hx; simp at hx; omega
theorem Ac.start {w wr : World} {b : Nat} {sv : Value} {mb rb : Nat} {rv : Value} {L R : List Tm} (h : Two w wr b sv mb rb rv L R) :
    Ac w ((wr.alloc (.cells #[.int .i64 0] 3)).alloc (.cells #[.slice (some ⟨wr.heap.size, 0, none⟩) 1 1] 112)) b sv mb rb rv L R (wr.heap.size + 1) (.slice (some ⟨wr.heap.size, 0, none⟩) 1 1) [0] := by
  have e : (wr.alloc (.cells #[.int .i64 0] 3)).heap.size = wr.heap.size + 1 := by simp
  have hs := h.bel.size
  refine ⟨h.new (((Below.refl _ _).alloc (Nat.le_refl _) _).alloc (by simp) _), ?_, ?_, by omega, ?_⟩
  · rw [← e]; exact heap_alloc_new _ _
  · refine ⟨rfl, Or.inr ⟨wr.heap.size, 1, #[.int .i64 0], rfl, Nat.zero_le _, ?_, Nat.le_refl _, by unfold maxLen; omega, rfl, rfl⟩⟩
    rw [Below.heap_alloc _ _ _ (by simp)]; exact heap_alloc_new _ _
  · intro k hk
    simp [Value.ownBlock] at hk
    omega
theorem Ac.cells {w wr : World} {b : Nat} {sv : Value} {mb rb : Nat} {rv : Value} {L R : List Tm} {mp : Nat} {lv : Value} {ph : List Nat} (h : Ac w wr b sv mb rb rv L R mp lv ph) : wr.cell? ⟨mp, 0, none⟩ = some lv ∧ wr.frozen? ⟨mp, 0, none⟩ = false := by
  refine ⟨?_, ?_⟩ <;> simp [World.cell?, World.frozen?, h.blk]
/-- The slice of numbers, open. -/
theorem Ac.form {w wr : World} {b : Nat} {sv : Value} {mb rb : Nat} {rv : Value} {L R : List Tm} {mp : Nat} {lv : Value} {ph : List Nat} (h : Ac w wr b sv mb rb rv L R mp lv ph) (hp : 0 < ph.length) : ∃ g cap, lv = .slice (some ⟨g, 0, none⟩) ph.length cap ∧ g < wr.heap.size := by
  rcases h.row.form with ⟨_, c⟩ | ⟨g, cap, hv, _, hg, _⟩
  · rw [c] at hp; simp at hp
  · exact ⟨g, cap, hv, hg⟩
theorem Ac.at {w wr : World} {b : Nat} {sv : Value} {mb rb : Nat} {rv : Value} {L R : List Tm} {mp g n cap : Nat} {ph : List Nat} (h : Ac w wr b sv mb rb rv L R mp (.slice (some ⟨g, 0, none⟩) n cap) ph) {i : Nat} (hi : i < ph.length) : wr.cell? ⟨g, i, none⟩ = some (.int .i64 ((ph.getD i 0 : Nat) : Int)) :=
  h.row.at rfl (by simp [List.getD, List.getElem?_eq_getElem hi])

end Go.Proofs.YtkaioidneknmjaaGreatDoor.Tn
