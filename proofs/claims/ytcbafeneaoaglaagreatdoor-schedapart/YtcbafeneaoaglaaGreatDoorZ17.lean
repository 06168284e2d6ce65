/- Texts joined: ScA ScB ScC. -/
import Derived.Test.YtcbafeneaoaglaaGreatDoorZ16
import Derived.Test.YtcbafeneaoaglaaGreatDoorZ15
/- Package hold: is a store there, has it a term; terms made where there is room. -/
namespace Go.Proofs.YtcbafeneaoaglaaGreatDoor.Tn
open Go.RowKit Go.Maps

theorem bwA' (w : World) (o : Obj) : Below w.heap.size w (w.alloc o) := (Below.refl _ _).alloc (Nat.le_refl _) _
theorem make_ok {b : Nat} {sv : Value} {mb : Nat} {L : List Tm} {w : World} (h : St w b sv mb L) (k n x y : Int) (ht : Tm.ok ⟨k, n, x, y⟩) (hm : may L.length ⟨k, n, x, y⟩ = true) (hl : L.length < 1048576) :
    Calls Tryz.prog 24 #[.pointer (some ⟨b, 0, none⟩), .agg #[.int .u8 k, .int .i64 n, .int .i64 x, .int .i64 y]] w fun e w' => e = .returned (.tuple #[.int .i64 (mkN L ⟨k, n, x, y⟩ : Nat), .int .i64 0]) ∧ ∃ sv', SStep w w' b sv sv' mb (mkL L ⟨k, n, x, y⟩) := by
  refine (make_any b sv mb L ⟨k, n, x, y⟩ w h ht).mono ?_
  rintro e w' ⟨rfl, s⟩
  rw [(mk_ok hm hl).1]
  exact ⟨rfl, s⟩
theorem mkN_thr {L : List Tm} {t : Tm} (hm : may L.length t = true) (hl : L.length < 1048576) : thr (mkL L t).length (mkN L t : Nat) = true ∧ (mkN L t : Int) ≤ 1048577 := by
  obtain ⟨_, h2, h3⟩ := mk_ok hm hl
  have := num_get h3
  have := num_le (mkL L t) t
  have := mkL_len L t
  rw [h2]
  exact ⟨thr_iff.2 (by omega), by omega⟩
set_option maxRecDepth 100000 in
set_option maxHeartbeats 2000000 in
theorem list_empty {b : Nat} {sv : Value} {mb : Nat} {L : List Tm} {w : World} (h : St w b sv mb L) :
    Calls Tryz.prog 59 #[.pointer (some ⟨b, 0, none⟩), .slice none 0 0] w fun e w' => e = .returned (.tuple #[.int .i64 0, .int .i64 0]) ∧ w' = w := by
  have K := hide (missing_any b sv mb L w h)
  clear h
  go_enter Tryz.func59, Tryz.ntmps59
  go_wp2_with fail
  refine (unhide K).mono ?_
  rintro e w ⟨rfl, rfl⟩
  clear K
  go_wp2
  refine wp_loop_rounds 1 ?_
  rw [rounds_succ]
  go_wp2
  go_ret2
  exact ⟨rfl, rfl⟩
set_option maxRecDepth 100000 in
theorem hmissing_any {b : Nat} {sv : Value} {mb : Nat} {L : List Tm} {w : World} (h : St w b sv mb L) :
    Calls Tryz.prog 27 #[.pointer (some ⟨b, 0, none⟩)] w fun e w' => e = .returned (.bool false) ∧ w' = w := by
  have K := hide (list_empty h)
  clear h
  go_enter Tryz.func27, Tryz.ntmps27
  go_wp2_with fail
  refine (unhide K).mono ?_
  rintro e w ⟨rfl, rfl⟩
  clear K
  go_wp2
  go_ret
  exact ⟨rfl, rfl⟩
set_option maxRecDepth 100000 in
theorem list_nostore (w : World) :
    Calls Tryz.prog 59 #[.pointer none, .slice none 0 0] w fun e w' => e = .returned (.tuple #[.int .i64 0, .int .i64 2]) ∧ w' = w := by
  have K := hide (missing_nil w)
  go_enter Tryz.func59, Tryz.ntmps59
  go_wp2_with fail
  refine (unhide K).mono ?_
  rintro e w ⟨rfl, rfl⟩
  clear K
  go_wp2
  go_ret2
  exact ⟨rfl, rfl⟩
set_option maxRecDepth 100000 in
theorem hmissing_nil (w : World) :
    Calls Tryz.prog 27 #[.pointer none] w fun e w' => e = .returned (.bool true) ∧ w' = w := by
  have K := hide (list_nostore w)
  go_enter Tryz.func27, Tryz.ntmps27
  go_wp2_with fail
  refine (unhide K).mono ?_
  rintro e w ⟨rfl, rfl⟩
  clear K
  go_wp2
  go_ret
  exact ⟨rfl, rfl⟩
set_option maxRecDepth 100000 in
theorem hhas_any {b : Nat} {sv : Value} {mb : Nat} {L : List Tm} {w : World} (h : St w b sv mb L) (x : Int) :
    Calls Tryz.prog 37 #[.pointer (some ⟨b, 0, none⟩), .int .i64 x] w fun e w' => e = .returned (.bool (thr L.length x)) ∧ Below w.heap.size w w' := by
  have K := hide (get_any b sv mb L x w h)
  clear h
  generalize thr L.length x = r at *
  generalize getT L x = t at *
  go_enter Tryz.func37, Tryz.ntmps37
  go_wp2_with fail
  refine (unhide K).mono ?_
  rintro e w1 ⟨rfl, y⟩
  clear K
  go_wp2
  go_ret
  exact ⟨rfl, y.alloc y.size _⟩
set_option maxRecDepth 100000 in
theorem scderived_any (w : World) (l s c : Int) :
    Calls Tryz.prog 40 #[.int .i64 l, .int .i64 s, .int .i64 c] w fun e w' => e = .returned (.agg #[.int .u8 4, .int .i64 l, .int .i64 s, .int .i64 c]) ∧ Below w.heap.size w w' := by
  go_enter Tryz.func40, Tryz.ntmps40
  go_wp2
  exact bodyPost_ret (v := .agg #[.int .u8 4, .int .i64 l, .int .i64 s, .int .i64 c]) (by simp [results, Tryz.results40, go_sem]) rfl ⟨rfl, bwA' _ _⟩
end Go.Proofs.YtcbafeneaoaglaaGreatDoor.Tn

/- The contract of sched.secrets. -/
namespace Go.Proofs.YtcbafeneaoaglaaGreatDoor.Tn
open Go.RowKit Go.Maps

/-- The keys of an epoch's secret, in their order. -/
def s5 (L : List Tm) (E : Int) : List Tm := mkL L ⟨4, 5, E, 0⟩
def s6 (L : List Tm) (E : Int) : List Tm := mkL (s5 L E) ⟨4, 6, E, 0⟩
def s7 (L : List Tm) (E : Int) : List Tm := mkL (s6 L E) ⟨4, 7, E, 0⟩
def s8 (L : List Tm) (E : Int) : List Tm := mkL (s7 L E) ⟨4, 8, E, 0⟩
/-- An epoch's secrets: the terms then, and the six numbers. -/
def secE (L : List Tm) (j c : Int) : Nat := mkN L ⟨4, 4, j, c⟩
def secL (L : List Tm) (j c : Int) : List Tm := s8 (mkL L ⟨4, 4, j, c⟩) (secE L j c)
def secV (L : List Tm) (j c : Int) : List Int :=
  [j, (secE L j c : Nat), (mkN (mkL L ⟨4, 4, j, c⟩) ⟨4, 5, (secE L j c : Nat), 0⟩ : Nat), (mkN (s5 (mkL L ⟨4, 4, j, c⟩) (secE L j c)) ⟨4, 6, (secE L j c : Nat), 0⟩ : Nat),
    (mkN (s6 (mkL L ⟨4, 4, j, c⟩) (secE L j c)) ⟨4, 7, (secE L j c : Nat), 0⟩ : Nat), (mkN (s7 (mkL L ⟨4, 4, j, c⟩) (secE L j c)) ⟨4, 8, (secE L j c : Nat), 0⟩ : Nat)]
def secA (l : List Int) : Value := .agg (l.map fun z => Value.int .i64 z).toArray
theorem St.notin {w : World} {b : Nat} {sv : Value} {mb : Nat} {L : List Tm} {k : Nat} {cs : Array Value} {t : TypeId} (h : St w b sv mb L) (hk : w.heap[k]? = some (.cells cs t (0, 0))) (h1 : t ≠ 105) (h2 : t ≠ 54) : k ∉ foot b sv mb := by
  intro c
  rcases mem_foot.1 c with rfl | rfl | c
  · rw [h.blk] at hk; injection hk with hk; injection hk with _ hk; exact h1 hk.symm
  · obtain ⟨es, cl, e⟩ := h.map.block; rw [e] at hk; cases hk
  · obtain ⟨cur, e⟩ := h.row.block c; rw [e] at hk; injection hk with hk; injection hk with _ hk; exact h2 hk.symm
theorem kept_blk {w w' : World} {k : Nat} {o : Obj} (h : w.heap[k]? = some o) (hb : Below w.heap.size w w') : w'.heap[k]? = some o := by rw [hb.block k (lt_of_blk h)]; exact h
theorem kept_fr {w w' : World} {b : Nat} {sv : Value} {mb : Nat} {L : List Tm} {k : Nat} {cs : Array Value} {t : TypeId} (h : w.heap[k]? = some (.cells cs t (0, 0))) (hs : St w b sv mb L) (hf : Fr (foot b sv mb) w w') (h1 : t ≠ 105) (h2 : t ≠ 54) : w'.heap[k]? = some (.cells cs t (0, 0)) := by rw [hf.block k (lt_of_blk h) (hs.notin h h1 h2)]; exact h
theorem SStep.poke {w W : World} {b : Nat} {sv sv' : Value} {mb : Nat} {L : List Tm} {k i : Nat} {cs : Array Value} {t : TypeId} (h : SStep w W b sv sv' mb L) (hk : W.heap[k]? = some (.cells cs t (0, 0))) (h1 : t ≠ 105) (h2 : t ≠ 54) (hw : w.heap.size ≤ k) (v : Value) : SStep w (W.setCell ⟨k, i, none⟩ v) b sv sv' mb L :=
  ⟨h.st.keep (S := [k]) ((Fr.refl _ _).setCell (a := ⟨k, i, none⟩) (Or.inr (by simp)) v) (fun x hx c => by simp at c; subst c; exact h.st.notin hk h1 h2 hx), h.fr.setCell (a := ⟨k, i, none⟩) (Or.inl hw) v, h.place⟩
theorem poke_blk {W : World} {k i : Nat} {cs : Array Value} {t : TypeId} (hk : W.heap[k]? = some (.cells cs t (0, 0))) (v : Value) : (W.setCell ⟨k, i, none⟩ v).heap[k]? = some (.cells (cs.setIfInBounds i v) t (0, 0)) := by
  simp [World.setCell, Array.getElem?_modify, hk]
theorem poke_other {W : World} {k i j : Nat} {o : Obj} (hk : W.heap[k]? = some o) (v : Value) (hj : j ≠ k) : (W.setCell ⟨j, i, none⟩ v).heap[k]? = some o := by
  rw [Below.heap_setCell _ _ _ _ (by simp; exact fun c => hj c.symm)]; exact hk
theorem row_blk {W : World} {k : Nat} {cs : Array Value} {t : TypeId} (hk : W.heap[k]? = some (.cells cs t (0, 0))) (new : Array Value) : (W.setRow k new).heap[k]? = some (.cells new t (0, 0)) := by
  simp only [World.setRow, Array.getElem?_modify, hk]
  simp
theorem row_other {W : World} {k j : Nat} (new : Array Value) (hj : j ≠ k) : (W.setRow j new).heap[k]? = W.heap[k]? := by
  simp only [World.setRow, Array.getElem?_modify, if_neg hj]
theorem SStep.row {w W : World} {b : Nat} {sv sv' : Value} {mb : Nat} {L : List Tm} {k : Nat} {cs : Array Value} {t : TypeId} (h : SStep w W b sv sv' mb L) (hk : W.heap[k]? = some (.cells cs t (0, 0))) (h1 : t ≠ 105) (h2 : t ≠ 54) (hw : w.heap.size ≤ k) (new : Array Value) : SStep w (W.setRow k new) b sv sv' mb L := by
  have hs : (W.setRow k new).heap.size = W.heap.size := by simp [World.setRow]
  have f1 : Fr [k] W (W.setRow k new) := ⟨rfl, rfl, rfl, by rw [hs]; exact Nat.le_refl _, fun x _ hx => row_other new (fun c => hx (by simp [c]))⟩
  refine ⟨h.st.keep f1 (fun x hx c => by simp at c; subst c; exact h.st.notin hk h1 h2 hx), ?_, h.place⟩
  exact h.fr.trans f1 (fun _ _ c => c) (fun x hx c => by simp at c; omega)
theorem blk_cell {W : World} {k i : Nat} {cs : Array Value} {t : TypeId} {v : Value} (hk : W.heap[k]? = some (.cells cs t (0, 0))) (h : cs[i]? = some v) : W.cell? ⟨k, i, none⟩ = some v := by
  simp [World.cell?, hk, h]
theorem blk_froz {W : World} {k i : Nat} {cs : Array Value} {t : TypeId} (hk : W.heap[k]? = some (.cells cs t (0, 0))) : W.frozen? ⟨k, i, none⟩ = false := by
  simp [World.frozen?, hk]
theorem SStep.six {w W : World} {b : Nat} {sv sv' : Value} {mb : Nat} {L : List Tm} {k : Nat} {a0 a1 a2 a3 a4 a5 : Value} {t : TypeId} (h : SStep w W b sv sv' mb L) (hk : W.heap[k]? = some (.cells #[a0, a1, a2, a3, a4, a5] t (0, 0))) (h1 : t ≠ 105) (h2 : t ≠ 54) (hw : w.heap.size ≤ k) (v0 v1 v2 v3 v4 v5 : Value) :
    SStep w ((((((W.setCell ⟨k, 0, none⟩ v0).setCell ⟨k, 1, none⟩ v1).setCell ⟨k, 2, none⟩ v2).setCell ⟨k, 3, none⟩ v3).setCell ⟨k, 4, none⟩ v4).setCell ⟨k, 5, none⟩ v5) b sv sv' mb L ∧ ((((((W.setCell ⟨k, 0, none⟩ v0).setCell ⟨k, 1, none⟩ v1).setCell ⟨k, 2, none⟩ v2).setCell ⟨k, 3, none⟩ v3).setCell ⟨k, 4, none⟩ v4).setCell ⟨k, 5, none⟩ v5).heap[k]? = some (.cells #[v0, v1, v2, v3, v4, v5] t (0, 0)) := by
  have e0 := poke_blk (i := 0) hk v0
  have e1 := poke_blk (i := 1) e0 v1
  have e2 := poke_blk (i := 2) e1 v2
  have e3 := poke_blk (i := 3) e2 v3
  have e4 := poke_blk (i := 4) e3 v4
  have e5 := poke_blk (i := 5) e4 v5
  exact ⟨(((((h.poke hk h1 h2 hw v0).poke e0 h1 h2 hw v1).poke e1 h1 h2 hw v2).poke e2 h1 h2 hw v3).poke e3 h1 h2 hw v4).poke e4 h1 h2 hw v5, e5⟩
theorem index_lab : (∀ w, (Instr.index 121 (.agg #[.int .i64 5, .int .i64 6, .int .i64 7, .int .i64 8]) (.int .i64 0)).run Tryz.prog w = .ok (.int .i64 5) w) ∧ (∀ w, (Instr.index 121 (.agg #[.int .i64 5, .int .i64 6, .int .i64 7, .int .i64 8]) (.int .i64 1)).run Tryz.prog w = .ok (.int .i64 6) w) ∧ (∀ w, (Instr.index 121 (.agg #[.int .i64 5, .int .i64 6, .int .i64 7, .int .i64 8]) (.int .i64 2)).run Tryz.prog w = .ok (.int .i64 7) w) ∧ (∀ w, (Instr.index 121 (.agg #[.int .i64 5, .int .i64 6, .int .i64 7, .int .i64 8]) (.int .i64 3)).run Tryz.prog w = .ok (.int .i64 8) w) := by
  have hs : ∀ w, (Go.sizeOf 2).run Tryz.prog w = .ok 1 w := fun w => by kernel_rfl
  have hp : Tryz.prog.plainKey 2 = true := by kernel_rfl
  have hu := Tryz.underlying121
  generalize Tryz.prog = P at *
  refine ⟨fun w => ?_, fun w => ?_, fun w => ?_, fun w => ?_⟩
  · have p := run_part_plain (w := w) hp (xs := #[.int .i64 5, .int .i64 6, .int .i64 7, .int .i64 8]) (off := 0) (v := .int .i64 5) rfl
    simp [Instr.index, run_underlying hu, asIntOf, hs, p, Result.andThen]
  · have p := run_part_plain (w := w) hp (xs := #[.int .i64 5, .int .i64 6, .int .i64 7, .int .i64 8]) (off := 1) (v := .int .i64 6) rfl
    simp [Instr.index, run_underlying hu, asIntOf, hs, p, Result.andThen]
  · have p := run_part_plain (w := w) hp (xs := #[.int .i64 5, .int .i64 6, .int .i64 7, .int .i64 8]) (off := 2) (v := .int .i64 7) rfl
    simp [Instr.index, run_underlying hu, asIntOf, hs, p, Result.andThen]
  · have p := run_part_plain (w := w) hp (xs := #[.int .i64 5, .int .i64 6, .int .i64 7, .int .i64 8]) (off := 3) (v := .int .i64 8) rfl
    simp [Instr.index, run_underlying hu, asIntOf, hs, p, Result.andThen]
theorem may_kdf {N : Nat} {l s c : Int} (hl : 0 ≤ l) (hs : thr N s = true) (hc : c = 0 ∨ thr N c = true) : may N ⟨4, l, s, c⟩ = true := by
  unfold may
  simp [hl, hs]
  exact hc
theorem ok_kdf {l s c : Int} (h : 0 ≤ l ∧ l ≤ 100 ∧ 0 ≤ s ∧ s ≤ 1048577 ∧ 0 ≤ c ∧ c ≤ 1048577) : Tm.ok ⟨4, l, s, c⟩ := by
  constructor <;> simp <;> omega
theorem thr_rng {N : Nat} {x : Int} (h : thr N x = true) (hN : N ≤ 1048576) : 0 ≤ x ∧ x ≤ 1048577 := by have := thr_iff.1 h; omega
set_option maxRecDepth 100000 in
set_option maxHeartbeats 4000000 in
theorem scsecrets_any {b : Nat} {sv : Value} {mb : Nat} {L : List Tm} {w : World} (h : St w b sv mb L) (j c : Int) (hj : thr L.length j = true) (hc : c = 0 ∨ thr L.length c = true) (hl : L.length + 8 ≤ 1048576) :
    Calls Tryz.prog 41 #[.func (.func 24) #[.pointer (some ⟨b, 0, none⟩)] #[], .int .i64 j, .int .i64 c] w fun e w' => e = .returned (.tuple #[secA (secV L j c), .int .i64 0]) ∧ ∃ sv', SStep w w' b sv sv' mb (secL L j c) := by
  have hjr := thr_rng hj (by omega)
  have hcr : 0 ≤ c ∧ c ≤ 1048577 := by rcases hc with rfl | hc; omega; exact thr_rng hc (by omega)
  have m0 := may_kdf (l := 4) (by omega) hj hc
  have o0 : Tm.ok ⟨4, 4, j, c⟩ := ok_kdf (by omega)
  obtain ⟨w0, hw0⟩ : ∃ w0, w0 = w.alloc (.cells #[.int .i64 0, .int .i64 0, .int .i64 0, .int .i64 0, .int .i64 0, .int .i64 0] 38) := ⟨_, rfl⟩
  have x0 : Below w.heap.size w w0 := by rw [hw0]; exact bwA' _ _
  have k0 : w0.heap[w.heap.size]? = some (.cells #[.int .i64 0, .int .i64 0, .int .i64 0, .int .i64 0, .int .i64 0, .int .i64 0] 38 (0, 0)) := by rw [hw0]; exact heap_alloc_new _ _
  have HW := hide hw0
  have KD : Hid (∀ W l s c, Calls Tryz.prog 40 #[.int .i64 l, .int .i64 s, .int .i64 c] W fun e w' => e = .returned (.agg #[.int .u8 4, .int .i64 l, .int .i64 s, .int .i64 c]) ∧ Below W.heap.size W w') := fun W l s c => scderived_any W l s c
  have HM : Hid (∀ W sv' L' l s c, SStep w W b sv sv' mb L' → Tm.ok ⟨4, l, s, c⟩ → may L'.length ⟨4, l, s, c⟩ = true → L'.length < 1048576 → Calls Tryz.prog 24 #[.pointer (some ⟨b, 0, none⟩), .agg #[.int .u8 4, .int .i64 l, .int .i64 s, .int .i64 c]] W fun e w' => e = .returned (.tuple #[.int .i64 (mkN L' ⟨4, l, s, c⟩ : Nat), .int .i64 0]) ∧ ∃ sv2, SStep w w' b sv sv2 mb (mkL L' ⟨4, l, s, c⟩) ∧ Fr (foot b sv' mb) W w') := fun W sv' L' l s c hs ho hm hl => by
    refine (make_ok hs.st 4 l s c ho hm hl).mono ?_
    rintro e w' ⟨h1, sv2, h2⟩
    exact ⟨h1, sv2, hs.trans h2, h2.fr⟩
  have S0 : Hid (SStep w w0 b sv sv mb L) := SStep.same h x0
  have HG := hide (And.intro m0 (And.intro o0 (And.intro hl (And.intro hjr hcr))))
  clear h hw0 m0 o0 hj hc hjr hcr hl
  go_enter Tryz.func41, Tryz.ntmps41
  go_wp2_with fail
  rw [← unhide HW]
  refine (unhide KD _ _ _ _).mono ?_
  rintro e w1 ⟨rfl, x1⟩
  have S1 : Hid (SStep w w1 b sv sv mb L) := (unhide S0).after x1
  have k1 := kept_blk k0 x1
  have KM := hide (unhide HM w1 sv L 4 j c (unhide S1) (unhide HG).2.1 (unhide HG).1 (by have := (unhide HG).2.2.1; omega))
  clear S0 x0 x1 k0 HW
  go_wp2_with fail
  refine (unhide KM).mono ?_
  rintro e w2 ⟨rfl, sv2, S2', f2⟩
  obtain ⟨E, hE⟩ : ∃ E : Nat, E = mkN L ⟨4, 4, j, c⟩ := ⟨_, rfl⟩
  have hEt : thr (mkL L ⟨4, 4, j, c⟩).length (E : Nat) = true ∧ (E : Int) ≤ 1048577 := by rw [hE]; exact mkN_thr (unhide HG).1 (by have := (unhide HG).2.2.1; omega)
  rw [← hE]
  have S2 := hide S2'
  have k2 := kept_fr k1 (unhide S1).st f2 (by decide) (by decide)
  obtain ⟨L1, hL1⟩ : ∃ L1, L1 = mkL L ⟨4, 4, j, c⟩ := ⟨_, rfl⟩
  rw [← hL1] at hEt S2
  have hl1 : L1.length + 7 ≤ 1048576 := by have := mkL_len L ⟨4, 4, j, c⟩; have := (unhide HG).2.2.1; rw [hL1]; omega
  have HE := hide (And.intro hE (And.intro hL1 hEt))
  have HL1 := hide hl1
  obtain ⟨B4, hB4⟩ : ∃ B4, B4 = w2.heap.size := ⟨_, rfl⟩
  obtain ⟨v1, hv1⟩ : ∃ v1, v1 = w2.alloc (.cells #[.int .i64 0, .int .i64 0, .int .i64 0, .int .i64 0] 120) := ⟨_, rfl⟩
  have y1 : Below w2.heap.size w2 v1 := by rw [hv1]; exact bwA' _ _
  have b1 : v1.heap[B4]? = some (.cells #[.int .i64 0, .int .i64 0, .int .i64 0, .int .i64 0] 120 (0, 0)) := by rw [hv1, hB4]; exact heap_alloc_new _ _
  have k3 := kept_blk k2 y1
  have S3 : Hid (SStep w v1 b sv sv2 mb L1) := (unhide S2).after y1
  have hB : Hid (w.heap.size ≤ B4) := by have := (unhide S2).fr.size; unfold Hid; omega
  have hkB : Hid (w.heap.size ≠ B4) := by have q3 := lt_of_blk k2; unfold Hid; omega
  have HV := hide hv1
  have HB := hide hB4
  clear hE hL1 hEt hl1 S2' S2 f2 k1 k2 KM S1 y1 hv1 hB4
  obtain ⟨I0, I1, I2, I3⟩ := index_lab
  go_wp2_with fail
  rw [← unhide HV]
  rw [← unhide HB]
  clear HV HB
  refine wp_loop_rounds 5 ?_
  have HT0 : Hid (thr L1.length (E : Int) = true) := (unhide HE).2.2.1
  have HO0 : Hid (Tm.ok ⟨4, 5, (E : Int), 0⟩) := ok_kdf (by have := (unhide HE).2.2.2; omega)
  have HO1 : Hid (Tm.ok ⟨4, 6, (E : Int), 0⟩) := ok_kdf (by have := (unhide HE).2.2.2; omega)
  have HO2 : Hid (Tm.ok ⟨4, 7, (E : Int), 0⟩) := ok_kdf (by have := (unhide HE).2.2.2; omega)
  have HO3 : Hid (Tm.ok ⟨4, 8, (E : Int), 0⟩) := ok_kdf (by have := (unhide HE).2.2.2; omega)
  -- round 0
  rw [rounds_succ]
  go_wp2_with fail
  refine (unhide KD _ _ _ _).mono ?_
  rintro e p0 ⟨rfl, x⟩
  have Sp0 := hide ((unhide S3).after x)
  have kp0 := kept_blk k3 x
  have bp0 := kept_blk b1 x
  have hm0 : may L1.length ⟨4, 5, (E : Int), 0⟩ = true := may_kdf (by omega) (unhide HT0) (Or.inl rfl)
  have KM := hide (unhide HM p0 sv2 L1 5 (E : Int) 0 (unhide Sp0) (unhide HO0) hm0 (by have := unhide HL1; omega))
  clear S3 k3 b1 x
  go_wp2_with fail
  refine (unhide KM).mono ?_
  rintro e q0 ⟨rfl, sw0, Sq', f⟩
  have Sq0 := hide Sq'
  have kq0 := kept_fr kp0 (unhide Sp0).st f (by decide) (by decide)
  have bq0 := kept_fr bp0 (unhide Sp0).st f (by decide) (by decide)
  obtain ⟨n0, hn0⟩ : ∃ n : Nat, n = mkN L1 ⟨4, 5, (E : Int), 0⟩ := ⟨_, rfl⟩
  obtain ⟨M0, hM0⟩ : ∃ M, M = mkL L1 ⟨4, 5, (E : Int), 0⟩ := ⟨_, rfl⟩
  rw [← hn0]
  rw [← hM0] at Sq0
  have HL0' : Hid (M0.length + 6 ≤ 1048576) := by have := mkL_len L1 ⟨4, 5, (E : Int), 0⟩; have := unhide HL1; unfold Hid; rw [hM0]; omega
  have HT1 : Hid (thr M0.length (E : Int) = true) := by have := mkL_le L1 ⟨4, 5, (E : Int), 0⟩; have t9 := unhide HT0; unfold Hid; rw [hM0]; exact thr_mono t9 this
  have HX0 := hide (And.intro hn0 hM0)
  have cc := blk_cell (i := 0) bq0 rfl
  have cf := blk_froz (i := 0) bq0
  clear KM Sp0 kp0 bp0 f Sq' hm0 hn0 hM0
  go_wp2_with fail
  obtain ⟨v2, hv⟩ : ∃ v, v = q0.setCell ⟨B4, 0, none⟩ (.int .i64 (n0 : Int)) := ⟨_, rfl⟩
  rw [← hv]
  have Sv0 : Hid (SStep w v2 b sv sw0 mb M0) := by unfold Hid; rw [hv]; exact (unhide Sq0).poke bq0 (by decide) (by decide) (unhide hB) _
  have kv0 : v2.heap[w.heap.size]? = some (.cells #[.int .i64 0, .int .i64 0, .int .i64 0, .int .i64 0, .int .i64 0, .int .i64 0] 38 (0, 0)) := by rw [hv]; exact poke_other kq0 _ (fun c => unhide hkB c.symm)
  have bv0 : v2.heap[B4]? = some (.cells #[.int .i64 (n0 : Int), .int .i64 0, .int .i64 0, .int .i64 0] 120 (0, 0)) := by rw [hv]; exact poke_blk bq0 _
  clear hv Sq0 kq0 bq0 cc cf
  -- round 1
  rw [rounds_succ]
  go_wp2_with fail
  refine (unhide KD _ _ _ _).mono ?_
  rintro e p1 ⟨rfl, x⟩
  have Sp1 := hide ((unhide Sv0).after x)
  have kp1 := kept_blk kv0 x
  have bp1 := kept_blk bv0 x
  have hm1 : may M0.length ⟨4, 6, (E : Int), 0⟩ = true := may_kdf (by omega) (unhide HT1) (Or.inl rfl)
  have KM := hide (unhide HM p1 sw0 M0 6 (E : Int) 0 (unhide Sp1) (unhide HO1) hm1 (by have := unhide HL0'; omega))
  clear Sv0 kv0 bv0 x
  go_wp2_with fail
  refine (unhide KM).mono ?_
  rintro e q1 ⟨rfl, sw1, Sq', f⟩
  have Sq1 := hide Sq'
  have kq1 := kept_fr kp1 (unhide Sp1).st f (by decide) (by decide)
  have bq1 := kept_fr bp1 (unhide Sp1).st f (by decide) (by decide)
  obtain ⟨n1, hn1⟩ : ∃ n : Nat, n = mkN M0 ⟨4, 6, (E : Int), 0⟩ := ⟨_, rfl⟩
  obtain ⟨M1, hM1⟩ : ∃ M, M = mkL M0 ⟨4, 6, (E : Int), 0⟩ := ⟨_, rfl⟩
  rw [← hn1]
  rw [← hM1] at Sq1
  have HL1' : Hid (M1.length + 5 ≤ 1048576) := by have := mkL_len M0 ⟨4, 6, (E : Int), 0⟩; have := unhide HL0'; unfold Hid; rw [hM1]; omega
  have HT2 : Hid (thr M1.length (E : Int) = true) := by have := mkL_le M0 ⟨4, 6, (E : Int), 0⟩; have t9 := unhide HT1; unfold Hid; rw [hM1]; exact thr_mono t9 this
  have HX1 := hide (And.intro hn1 hM1)
  have cc := blk_cell (i := 1) bq1 rfl
  have cf := blk_froz (i := 1) bq1
  clear KM Sp1 kp1 bp1 f Sq' hm1 hn1 hM1
  go_wp2_with fail
  obtain ⟨v3, hv⟩ : ∃ v, v = q1.setCell ⟨B4, 1, none⟩ (.int .i64 (n1 : Int)) := ⟨_, rfl⟩
  rw [← hv]
  have Sv1 : Hid (SStep w v3 b sv sw1 mb M1) := by unfold Hid; rw [hv]; exact (unhide Sq1).poke bq1 (by decide) (by decide) (unhide hB) _
  have kv1 : v3.heap[w.heap.size]? = some (.cells #[.int .i64 0, .int .i64 0, .int .i64 0, .int .i64 0, .int .i64 0, .int .i64 0] 38 (0, 0)) := by rw [hv]; exact poke_other kq1 _ (fun c => unhide hkB c.symm)
  have bv1 : v3.heap[B4]? = some (.cells #[.int .i64 (n0 : Int), .int .i64 (n1 : Int), .int .i64 0, .int .i64 0] 120 (0, 0)) := by rw [hv]; exact poke_blk bq1 _
  clear hv Sq1 kq1 bq1 cc cf
  -- round 2
  rw [rounds_succ]
  go_wp2_with fail
  refine (unhide KD _ _ _ _).mono ?_
  rintro e p2 ⟨rfl, x⟩
  have Sp2 := hide ((unhide Sv1).after x)
  have kp2 := kept_blk kv1 x
  have bp2 := kept_blk bv1 x
  have hm2 : may M1.length ⟨4, 7, (E : Int), 0⟩ = true := may_kdf (by omega) (unhide HT2) (Or.inl rfl)
  have KM := hide (unhide HM p2 sw1 M1 7 (E : Int) 0 (unhide Sp2) (unhide HO2) hm2 (by have := unhide HL1'; omega))
  clear Sv1 kv1 bv1 x
  go_wp2_with fail
  refine (unhide KM).mono ?_
  rintro e q2 ⟨rfl, sw2, Sq', f⟩
  have Sq2 := hide Sq'
  have kq2 := kept_fr kp2 (unhide Sp2).st f (by decide) (by decide)
  have bq2 := kept_fr bp2 (unhide Sp2).st f (by decide) (by decide)
  obtain ⟨n2, hn2⟩ : ∃ n : Nat, n = mkN M1 ⟨4, 7, (E : Int), 0⟩ := ⟨_, rfl⟩
  obtain ⟨M2, hM2⟩ : ∃ M, M = mkL M1 ⟨4, 7, (E : Int), 0⟩ := ⟨_, rfl⟩
  rw [← hn2]
  rw [← hM2] at Sq2
  have HL2' : Hid (M2.length + 4 ≤ 1048576) := by have := mkL_len M1 ⟨4, 7, (E : Int), 0⟩; have := unhide HL1'; unfold Hid; rw [hM2]; omega
  have HT3 : Hid (thr M2.length (E : Int) = true) := by have := mkL_le M1 ⟨4, 7, (E : Int), 0⟩; have t9 := unhide HT2; unfold Hid; rw [hM2]; exact thr_mono t9 this
  have HX2 := hide (And.intro hn2 hM2)
  have cc := blk_cell (i := 2) bq2 rfl
  have cf := blk_froz (i := 2) bq2
  clear KM Sp2 kp2 bp2 f Sq' hm2 hn2 hM2
  go_wp2_with fail
  obtain ⟨v4, hv⟩ : ∃ v, v = q2.setCell ⟨B4, 2, none⟩ (.int .i64 (n2 : Int)) := ⟨_, rfl⟩
  rw [← hv]
  have Sv2 : Hid (SStep w v4 b sv sw2 mb M2) := by unfold Hid; rw [hv]; exact (unhide Sq2).poke bq2 (by decide) (by decide) (unhide hB) _
  have kv2 : v4.heap[w.heap.size]? = some (.cells #[.int .i64 0, .int .i64 0, .int .i64 0, .int .i64 0, .int .i64 0, .int .i64 0] 38 (0, 0)) := by rw [hv]; exact poke_other kq2 _ (fun c => unhide hkB c.symm)
  have bv2 : v4.heap[B4]? = some (.cells #[.int .i64 (n0 : Int), .int .i64 (n1 : Int), .int .i64 (n2 : Int), .int .i64 0] 120 (0, 0)) := by rw [hv]; exact poke_blk bq2 _
  clear hv Sq2 kq2 bq2 cc cf
  -- round 3
  rw [rounds_succ]
  go_wp2_with fail
  refine (unhide KD _ _ _ _).mono ?_
  rintro e p3 ⟨rfl, x⟩
  have Sp3 := hide ((unhide Sv2).after x)
  have kp3 := kept_blk kv2 x
  have bp3 := kept_blk bv2 x
  have hm3 : may M2.length ⟨4, 8, (E : Int), 0⟩ = true := may_kdf (by omega) (unhide HT3) (Or.inl rfl)
  have KM := hide (unhide HM p3 sw2 M2 8 (E : Int) 0 (unhide Sp3) (unhide HO3) hm3 (by have := unhide HL2'; omega))
  clear Sv2 kv2 bv2 x
  go_wp2_with fail
  refine (unhide KM).mono ?_
  rintro e q3 ⟨rfl, sw3, Sq', f⟩
  have Sq3 := hide Sq'
  have kq3 := kept_fr kp3 (unhide Sp3).st f (by decide) (by decide)
  have bq3 := kept_fr bp3 (unhide Sp3).st f (by decide) (by decide)
  obtain ⟨n3, hn3⟩ : ∃ n : Nat, n = mkN M2 ⟨4, 8, (E : Int), 0⟩ := ⟨_, rfl⟩
  obtain ⟨M3, hM3⟩ : ∃ M, M = mkL M2 ⟨4, 8, (E : Int), 0⟩ := ⟨_, rfl⟩
  rw [← hn3]
  rw [← hM3] at Sq3
  have HL3' : Hid (M3.length + 3 ≤ 1048576) := by have := mkL_len M2 ⟨4, 8, (E : Int), 0⟩; have := unhide HL2'; unfold Hid; rw [hM3]; omega
  have HT4 : Hid (thr M3.length (E : Int) = true) := by have := mkL_le M2 ⟨4, 8, (E : Int), 0⟩; have t9 := unhide HT3; unfold Hid; rw [hM3]; exact thr_mono t9 this
  have HX3 := hide (And.intro hn3 hM3)
  have cc := blk_cell (i := 3) bq3 rfl
  have cf := blk_froz (i := 3) bq3
  clear KM Sp3 kp3 bp3 f Sq' hm3 hn3 hM3
  go_wp2_with fail
  obtain ⟨v5, hv⟩ : ∃ v, v = q3.setCell ⟨B4, 3, none⟩ (.int .i64 (n3 : Int)) := ⟨_, rfl⟩
  rw [← hv]
  have Sv3 : Hid (SStep w v5 b sv sw3 mb M3) := by unfold Hid; rw [hv]; exact (unhide Sq3).poke bq3 (by decide) (by decide) (unhide hB) _
  have kv3 : v5.heap[w.heap.size]? = some (.cells #[.int .i64 0, .int .i64 0, .int .i64 0, .int .i64 0, .int .i64 0, .int .i64 0] 38 (0, 0)) := by rw [hv]; exact poke_other kq3 _ (fun c => unhide hkB c.symm)
  have bv3 : v5.heap[B4]? = some (.cells #[.int .i64 (n0 : Int), .int .i64 (n1 : Int), .int .i64 (n2 : Int), .int .i64 (n3 : Int)] 120 (0, 0)) := by rw [hv]; exact poke_blk bq3 _
  clear hv Sq3 kq3 bq3 cc cf
  rw [rounds_succ]
  have d0 := blk_cell (i := 0) bv3 rfl
  have d1 := blk_cell (i := 1) bv3 rfl
  have d2 := blk_cell (i := 2) bv3 rfl
  have d3 := blk_cell (i := 3) bv3 rfl
  have h0 := blk_cell (i := 0) kv3 rfl
  have h1 := blk_cell (i := 1) kv3 rfl
  have h2 := blk_cell (i := 2) kv3 rfl
  have h3 := blk_cell (i := 3) kv3 rfl
  have h4 := blk_cell (i := 4) kv3 rfl
  have h5 := blk_cell (i := 5) kv3 rfl
  have hf := fun i => blk_froz (i := i) kv3
  go_wp2_with fail
  obtain ⟨SV, bV⟩ := (unhide Sv3).six kv3 (by decide) (by decide) (Nat.le_refl _) (.int .i64 j) (.int .i64 (E : Int)) (.int .i64 (n0 : Int)) (.int .i64 (n1 : Int)) (.int .i64 (n2 : Int)) (.int .i64 (n3 : Int))
  generalize ((((((v5.setCell ⟨w.heap.size, 0, none⟩ (.int .i64 j)).setCell ⟨w.heap.size, 1, none⟩ (.int .i64 (E : Int))).setCell ⟨w.heap.size, 2, none⟩ (.int .i64 (n0 : Int))).setCell ⟨w.heap.size, 3, none⟩ (.int .i64 (n1 : Int))).setCell ⟨w.heap.size, 4, none⟩ (.int .i64 (n2 : Int))).setCell ⟨w.heap.size, 5, none⟩ (.int .i64 (n3 : Int))) = V at SV bV ⊢
  have g0 := blk_cell (i := 0) bV rfl
  have g1 := blk_cell (i := 1) bV rfl
  have g2 := blk_cell (i := 2) bV rfl
  have g3 := blk_cell (i := 3) bV rfl
  have g4 := blk_cell (i := 4) bV rfl
  have g5 := blk_cell (i := 5) bV rfl
  clear bV kv3 bv3 d0 d1 d2 d3 h0 h1 h2 h3 h4 h5 hf
  have hval : secV L j c = [j, (E : Int), (n0 : Int), (n1 : Int), (n2 : Int), (n3 : Int)] ∧ secL L j c = M3 := by
    obtain ⟨e1, e2, -⟩ := unhide HE
    obtain ⟨a0, c0⟩ := unhide HX0
    obtain ⟨a1, c1⟩ := unhide HX1
    obtain ⟨a2, c2⟩ := unhide HX2
    obtain ⟨a3, c3⟩ := unhide HX3
    have es : secE L j c = E := e1.symm
    constructor
    · unfold secV s7 s6 s5
      rw [es, ← e2, ← c0, ← c1, ← c2, ← a0, ← a1, ← a2, ← a3]
    · unfold secL s8 s7 s6 s5
      rw [es, ← e2, ← c0, ← c1, ← c2, ← c3]
  have HVAL := hide hval
  have HSV := hide SV
  clear hval SV
  refine bodyPost_ret (v := .tuple #[.agg #[.int .i64 j, .int .i64 (E : Int), .int .i64 (n0 : Int), .int .i64 (n1 : Int), .int .i64 (n2 : Int), .int .i64 (n3 : Int)], .int .i64 0]) (by simp [results, Tryz.results41, go_sem, g0, g1, g2, g3, g4, g5]) rfl ⟨?_, sw3, ?_⟩
  · rw [(unhide HVAL).1]; rfl
  · rw [(unhide HVAL).2]; exact unhide HSV
end Go.Proofs.YtcbafeneaoaglaaGreatDoor.Tn

/- The contracts of sched.Next and sched.From. -/
namespace Go.Proofs.YtcbafeneaoaglaaGreatDoor.Tn
open Go.RowKit Go.Maps

def nxP (L : List Tm) (i c : Int) : Nat := mkN L ⟨3, 0, i, c⟩
def nxJ (L : List Tm) (i c : Int) : Nat := mkN (mkL L ⟨3, 0, i, c⟩) ⟨4, 3, (nxP L i c : Nat), 0⟩
def nxL (L : List Tm) (i c : Int) : List Tm := mkL (mkL L ⟨3, 0, i, c⟩) ⟨4, 3, (nxP L i c : Nat), 0⟩
theorem secA6 (a b c d e f : Int) : secA [a, b, c, d, e, f] = .agg #[.int .i64 a, .int .i64 b, .int .i64 c, .int .i64 d, .int .i64 e, .int .i64 f] := rfl
theorem may_pair {N : Nat} {a b : Int} (ha : thr N a = true) (hb : thr N b = true) : may N ⟨3, 0, a, b⟩ = true := by
  unfold may
  simp [ha, hb]
theorem ok_pair {a b : Int} (h : 0 ≤ a ∧ a ≤ 1048577 ∧ 0 ≤ b ∧ b ≤ 1048577) : Tm.ok ⟨3, 0, a, b⟩ := by
  constructor <;> simp <;> omega
theorem heap_size_alloc (w : World) (o : Obj) : (w.alloc o).heap.size = w.heap.size + 1 := by simp
theorem blk_before {w : World} {k : Nat} {o o' : Obj} (h : w.heap[k]? = some o) : (w.alloc o').heap[k]? = some o := by rw [Below.heap_alloc _ _ _ (lt_of_blk h)]; exact h
theorem blk4 (w : World) (o1 o2 o3 o4 : Obj) : (((((w.alloc o1).alloc o2).alloc o3).alloc o4).heap[w.heap.size]? = some o1) ∧ (((((w.alloc o1).alloc o2).alloc o3).alloc o4).heap[w.heap.size + 1]? = some o2) ∧ (((((w.alloc o1).alloc o2).alloc o3).alloc o4).heap[w.heap.size + 1 + 1]? = some o3) ∧ (((((w.alloc o1).alloc o2).alloc o3).alloc o4).heap[w.heap.size + 1 + 1 + 1]? = some o4) ∧ Below w.heap.size w ((((w.alloc o1).alloc o2).alloc o3).alloc o4) := by
  have h1 := heap_alloc_new w o1
  have h2 := heap_alloc_new (w.alloc o1) o2
  have h3 := heap_alloc_new ((w.alloc o1).alloc o2) o3
  have h4 := heap_alloc_new (((w.alloc o1).alloc o2).alloc o3) o4
  simp only [heap_size_alloc] at h1 h2 h3 h4
  exact ⟨blk_before (blk_before (blk_before h1)), blk_before (blk_before h2), blk_before h3, h4, (((bwA' _ _).alloc (by simp) _).alloc (by simp; omega) _).alloc (by simp; omega) _⟩
theorem blk3 (w : World) (o1 o2 o3 : Obj) : ((((w.alloc o1).alloc o2).alloc o3).heap[w.heap.size]? = some o1) ∧ ((((w.alloc o1).alloc o2).alloc o3).heap[w.heap.size + 1]? = some o2) ∧ ((((w.alloc o1).alloc o2).alloc o3).heap[w.heap.size + 1 + 1]? = some o3) ∧ Below w.heap.size w (((w.alloc o1).alloc o2).alloc o3) := by
  have h1 := heap_alloc_new w o1
  have h2 := heap_alloc_new (w.alloc o1) o2
  have h3 := heap_alloc_new ((w.alloc o1).alloc o2) o3
  simp only [heap_size_alloc] at h1 h2 h3
  exact ⟨blk_before (blk_before h1), blk_before h2, h3, ((bwA' _ _).alloc (by simp) _).alloc (by simp; omega) _⟩
set_option maxRecDepth 100000 in
set_option maxHeartbeats 4000000 in
theorem next1_any {b : Nat} {sv : Value} {mb : Nat} {L : List Tm} {w : World} (h : St w b sv mb L) (i c x : Int) (hi : thr L.length i = true) (hc : thr L.length c = true) (hx : thr L.length x = true) (hl : L.length + 10 ≤ 1048576) (p1 p2 p3 : Nat) (c1 : w.cell? ⟨p1, 0, none⟩ = some (.int .i64 i)) (c2 : w.cell? ⟨p2, 0, none⟩ = some (.int .i64 c)) (c3 : w.heap[p3]? = some (.cells #[.int .i64 x] 3 (0, 0))) (a0 a1 a2 a3 a4 a5 : Int) (ha : secV (nxL L i c) (nxJ L i c : Nat) x = [a0, a1, a2, a3, a4, a5]) :
    Calls Tryz.prog 39 #[.func (.func 24) #[.pointer (some ⟨b, 0, none⟩)] #[], .pointer (some ⟨p1, 0, none⟩), .pointer (some ⟨p2, 0, none⟩), .pointer (some ⟨p3, 0, none⟩)] w fun e w' => e = .returned (.tuple #[.agg #[.int .i64 a0, .int .i64 a1, .int .i64 a2, .int .i64 a3, .int .i64 a4, .int .i64 a5], .int .i64 0]) ∧ ∃ sv', SStep w w' b sv sv' mb (secL (nxL L i c) (nxJ L i c : Nat) x) := by
  have hir := thr_rng hi (by omega)
  have hcr := thr_rng hc (by omega)
  obtain ⟨w0, hw0⟩ : ∃ w0, w0 = w.alloc (.cells #[.int .i64 0, .int .i64 0, .int .i64 0, .int .i64 0, .int .i64 0, .int .i64 0] 38) := ⟨_, rfl⟩
  have x0 : Below w.heap.size w w0 := by rw [hw0]; exact bwA' _ _
  have k0 : w0.heap[w.heap.size]? = some (.cells #[.int .i64 0, .int .i64 0, .int .i64 0, .int .i64 0, .int .i64 0, .int .i64 0] 38 (0, 0)) := by rw [hw0]; exact heap_alloc_new _ _
  have HW := hide hw0
  have S0 : Hid (SStep w w0 b sv sv mb L) := SStep.same h x0
  have m1 := may_pair hi hc
  have K1 := hide (make_ok (unhide S0).st 3 0 i c (ok_pair (by omega)) m1 (by omega))
  obtain ⟨P, hP⟩ : ∃ P : Nat, P = nxP L i c := ⟨_, rfl⟩
  obtain ⟨L1, hL1⟩ : ∃ L1, L1 = mkL L ⟨3, 0, i, c⟩ := ⟨_, rfl⟩
  have tP : thr L1.length (P : Int) = true ∧ (P : Int) ≤ 1048577 := by rw [hP, hL1]; exact mkN_thr m1 (by omega)
  have e1 : mkN L ⟨3, 0, i, c⟩ = P := hP.symm
  rw [e1, ← hL1] at K1
  have l1 : L1.length ≤ L.length + 1 := by rw [hL1]; exact mkL_len _ _
  have m2 : may L1.length ⟨4, 3, (P : Int), 0⟩ = true := may_kdf (by omega) tP.1 (Or.inl rfl)
  have o2 : Tm.ok ⟨4, 3, (P : Int), 0⟩ := ok_kdf (by have := thr_iff.1 tP.1; omega)
  obtain ⟨J, hJ⟩ : ∃ J : Nat, J = nxJ L i c := ⟨_, rfl⟩
  obtain ⟨L2, hL2⟩ : ∃ L2, L2 = nxL L i c := ⟨_, rfl⟩
  have e2 : mkN L1 ⟨4, 3, (P : Int), 0⟩ = J := by rw [hJ, hL1, hP]; rfl
  have e3 : mkL L1 ⟨4, 3, (P : Int), 0⟩ = L2 := by rw [hL2, hL1, hP]; rfl
  have tJ : thr L2.length (J : Int) = true ∧ (J : Int) ≤ 1048577 := by rw [← e2, ← e3]; exact mkN_thr m2 (by omega)
  have l2 : L2.length ≤ L1.length + 1 := by rw [← e3]; exact mkL_len _ _
  have l3 : L.length ≤ L2.length := by rw [← e3]; exact Nat.le_trans (by rw [hL1]; exact mkL_le _ _) (mkL_le _ _)
  rw [← hJ, ← hL2] at ha ⊢
  have HM : Hid (∀ W sv', SStep w W b sv sv' mb L1 → Calls Tryz.prog 24 #[.pointer (some ⟨b, 0, none⟩), .agg #[.int .u8 4, .int .i64 3, .int .i64 (P : Int), .int .i64 0]] W fun e w' => e = .returned (.tuple #[.int .i64 (J : Nat), .int .i64 0]) ∧ ∃ sv2, SStep w w' b sv sv2 mb L2 ∧ Fr (foot b sv' mb) W w') := fun W sv' hs => by
    refine (make_ok hs.st 4 3 (P : Int) 0 o2 m2 (by omega)).mono ?_
    rintro e w' ⟨h1, sv2, h2⟩
    rw [e2] at h1
    rw [e3] at h2
    exact ⟨h1, sv2, hs.trans h2, h2.fr⟩
  have HSc : Hid (∀ W sv', SStep w W b sv sv' mb L2 → Calls Tryz.prog 41 #[.func (.func 24) #[.pointer (some ⟨b, 0, none⟩)] #[], .int .i64 (J : Int), .int .i64 x] W fun e w' => e = .returned (.tuple #[.agg #[.int .i64 a0, .int .i64 a1, .int .i64 a2, .int .i64 a3, .int .i64 a4, .int .i64 a5], .int .i64 0]) ∧ ∃ sv2, SStep w w' b sv sv2 mb (secL L2 (J : Nat) x) ∧ Fr (foot b sv' mb) W w') := fun W sv' hs => by
    refine (scsecrets_any hs.st (J : Int) x tJ.1 (Or.inr (thr_mono hx l3)) (by omega)).mono ?_
    rintro e w' ⟨h1, sv2, h2⟩
    rw [ha, secA6] at h1
    exact ⟨h1, sv2, hs.trans h2, h2.fr⟩
  have c1' : w0.cell? ⟨p1, 0, none⟩ = some (.int .i64 i) := by rw [x0.cell (lt_of_cell c1)]; exact c1
  have c2' : w0.cell? ⟨p2, 0, none⟩ = some (.int .i64 c) := by rw [x0.cell (lt_of_cell c2)]; exact c2
  have q0 := kept_blk c3 x0
  clear h hw0 hi hc hx hl hir hcr x0 m1 m2 o2 hP hL1 tP e1 l1 hJ hL2 e2 e3 tJ l2 l3 c1 c2 c3 ha
  go_enter Tryz.func39, Tryz.ntmps39
  go_upto_region 1 with fail
  rw [← unhide HW]
  go_wp2_with fail
  refine (unhide K1).mono ?_
  rintro e w1 ⟨rfl, sv1, s1⟩
  have S1 : Hid (SStep w w1 b sv sv1 mb L1) := (unhide S0).trans s1
  have k1 := kept_fr k0 (unhide S0).st s1.fr (by decide) (by decide)
  have q1 := kept_fr q0 (unhide S0).st s1.fr (by decide) (by decide)
  have KD := hide (scderived_any w1 3 (P : Int) 0)
  clear s1 S0 k0 q0 HW K1 c1' c2'
  go_wp2_with fail
  refine (unhide KD).mono ?_
  rintro e w2 ⟨rfl, y⟩
  have S2 : Hid (SStep w w2 b sv sv1 mb L1) := (unhide S1).after y
  have k2 := kept_blk k1 y
  have q2 := kept_blk q1 y
  have K2 := hide (unhide HM w2 sv1 (unhide S2))
  clear y S1 k1 q1 KD HM
  go_wp2_with fail
  refine (unhide K2).mono ?_
  rintro e w3 ⟨rfl, sv3, s3, f3⟩
  have S3 := hide s3
  have k3 := kept_fr k2 (unhide S2).st f3 (by decide) (by decide)
  have q3 := kept_fr q2 (unhide S2).st f3 (by decide) (by decide)
  have K3 := hide (unhide HSc w3 sv3 (unhide S3))
  have d3 := blk_cell (i := 0) q3 rfl
  clear s3 f3 S2 k2 q2 K2 HSc
  go_wp2_with fail
  refine (unhide K3).mono ?_
  rintro e w4 ⟨rfl, sv4, s4, f4⟩
  have S4 := hide s4
  have k4 := kept_fr k3 (unhide S3).st f4 (by decide) (by decide)
  clear s4 f4 S3 k3 q3 K3 d3
  have h0 := blk_cell (i := 0) k4 rfl
  have h1 := blk_cell (i := 1) k4 rfl
  have h2 := blk_cell (i := 2) k4 rfl
  have h3 := blk_cell (i := 3) k4 rfl
  have h4 := blk_cell (i := 4) k4 rfl
  have h5 := blk_cell (i := 5) k4 rfl
  have hf := fun i => blk_froz (i := i) k4
  go_wp2_with fail
  obtain ⟨SV, bV⟩ := (unhide S4).six k4 (by decide) (by decide) (by omega) (.int .i64 a0) (.int .i64 a1) (.int .i64 a2) (.int .i64 a3) (.int .i64 a4) (.int .i64 a5)
  generalize ((((((w4.setCell ⟨w.heap.size, 0, none⟩ (.int .i64 a0)).setCell ⟨w.heap.size, 1, none⟩ (.int .i64 a1)).setCell ⟨w.heap.size, 2, none⟩ (.int .i64 a2)).setCell ⟨w.heap.size, 3, none⟩ (.int .i64 a3)).setCell ⟨w.heap.size, 4, none⟩ (.int .i64 a4)).setCell ⟨w.heap.size, 5, none⟩ (.int .i64 a5)) = V at SV bV ⊢
  have g0 := blk_cell (i := 0) bV rfl
  have g1 := blk_cell (i := 1) bV rfl
  have g2 := blk_cell (i := 2) bV rfl
  have g3 := blk_cell (i := 3) bV rfl
  have g4 := blk_cell (i := 4) bV rfl
  have g5 := blk_cell (i := 5) bV rfl
  have HSV := hide SV
  clear SV bV k4 h0 h1 h2 h3 h4 h5 hf S4
  exact bodyPost_ret (v := .tuple #[.agg #[.int .i64 a0, .int .i64 a1, .int .i64 a2, .int .i64 a3, .int .i64 a4, .int .i64 a5], .int .i64 0]) (by simp [results, Tryz.results39, go_sem, g0, g1, g2, g3, g4, g5]) rfl ⟨rfl, sv4, unhide HSV⟩

set_option maxRecDepth 100000 in
set_option maxHeartbeats 4000000 in
theorem from1_any {b : Nat} {sv : Value} {mb : Nat} {L : List Tm} {w : World} (h : St w b sv mb L) (j x : Int) (hj : thr L.length j = true) (hx : thr L.length x = true) (hl : L.length + 10 ≤ 1048576) (p1 p2 : Nat) (c1 : w.cell? ⟨p1, 0, none⟩ = some (.int .i64 j)) (c2 : w.cell? ⟨p2, 0, none⟩ = some (.int .i64 x)) (a0 a1 a2 a3 a4 a5 : Int) (ha : secV L j x = [a0, a1, a2, a3, a4, a5]) :
    Calls Tryz.prog 44 #[.func (.func 24) #[.pointer (some ⟨b, 0, none⟩)] #[], .pointer (some ⟨p1, 0, none⟩), .pointer (some ⟨p2, 0, none⟩)] w fun e w' => e = .returned (.tuple #[.agg #[.int .i64 a0, .int .i64 a1, .int .i64 a2, .int .i64 a3, .int .i64 a4, .int .i64 a5], .int .i64 0]) ∧ ∃ sv', SStep w w' b sv sv' mb (secL L j x) := by
  obtain ⟨w0, hw0⟩ : ∃ w0, w0 = w.alloc (.cells #[.int .i64 0, .int .i64 0, .int .i64 0, .int .i64 0, .int .i64 0, .int .i64 0] 38) := ⟨_, rfl⟩
  have x0 : Below w.heap.size w w0 := by rw [hw0]; exact bwA' _ _
  have k0 : w0.heap[w.heap.size]? = some (.cells #[.int .i64 0, .int .i64 0, .int .i64 0, .int .i64 0, .int .i64 0, .int .i64 0] 38 (0, 0)) := by rw [hw0]; exact heap_alloc_new _ _
  have HW := hide hw0
  have S0 : Hid (SStep w w0 b sv sv mb L) := SStep.same h x0
  have K := hide (scsecrets_any (unhide S0).st j x hj (Or.inr hx) (by omega))
  rw [ha, secA6] at K
  have c1' : w0.cell? ⟨p1, 0, none⟩ = some (.int .i64 j) := by rw [x0.cell (lt_of_cell c1)]; exact c1
  have c2' : w0.cell? ⟨p2, 0, none⟩ = some (.int .i64 x) := by rw [x0.cell (lt_of_cell c2)]; exact c2
  clear h hw0 hj hx hl x0 c1 c2 ha
  go_enter Tryz.func44, Tryz.ntmps44
  go_upto_region 1 with fail
  rw [← unhide HW]
  go_wp2_with fail
  refine (unhide K).mono ?_
  rintro e w4 ⟨rfl, sv4, s4⟩
  have S4 := hide ((unhide S0).trans s4)
  have k4 := kept_fr k0 (unhide S0).st s4.fr (by decide) (by decide)
  clear s4 S0 k0 HW K c1' c2'
  have h0 := blk_cell (i := 0) k4 rfl
  have h1 := blk_cell (i := 1) k4 rfl
  have h2 := blk_cell (i := 2) k4 rfl
  have h3 := blk_cell (i := 3) k4 rfl
  have h4 := blk_cell (i := 4) k4 rfl
  have h5 := blk_cell (i := 5) k4 rfl
  have hf := fun i => blk_froz (i := i) k4
  go_wp2_with fail
  obtain ⟨SV, bV⟩ := (unhide S4).six k4 (by decide) (by decide) (by omega) (.int .i64 a0) (.int .i64 a1) (.int .i64 a2) (.int .i64 a3) (.int .i64 a4) (.int .i64 a5)
  generalize ((((((w4.setCell ⟨w.heap.size, 0, none⟩ (.int .i64 a0)).setCell ⟨w.heap.size, 1, none⟩ (.int .i64 a1)).setCell ⟨w.heap.size, 2, none⟩ (.int .i64 a2)).setCell ⟨w.heap.size, 3, none⟩ (.int .i64 a3)).setCell ⟨w.heap.size, 4, none⟩ (.int .i64 a4)).setCell ⟨w.heap.size, 5, none⟩ (.int .i64 a5)) = V at SV bV ⊢
  have g0 := blk_cell (i := 0) bV rfl
  have g1 := blk_cell (i := 1) bV rfl
  have g2 := blk_cell (i := 2) bV rfl
  have g3 := blk_cell (i := 3) bV rfl
  have g4 := blk_cell (i := 4) bV rfl
  have g5 := blk_cell (i := 5) bV rfl
  have HSV := hide SV
  clear SV bV k4 h0 h1 h2 h3 h4 h5 hf S4
  exact bodyPost_ret (v := .tuple #[.agg #[.int .i64 a0, .int .i64 a1, .int .i64 a2, .int .i64 a3, .int .i64 a4, .int .i64 a5], .int .i64 0]) (by simp [results, Tryz.results44, go_sem, g0, g1, g2, g3, g4, g5]) rfl ⟨rfl, sv4, unhide HSV⟩
set_option maxRecDepth 100000 in
set_option maxHeartbeats 4000000 in
theorem aonS_next {b : Nat} {sv : Value} {mb : Nat} {L L' : List Tm} {w : World} (h : St w b sv mb L) (hl : L.length + 160 ≤ 1048576) (p1 p2 p3 : Nat) (a0 a1 a2 a3 a4 a5 : Int)
    (K : ∀ W, Below w.heap.size w W → Calls Tryz.prog 39 #[.func (.func 24) #[.pointer (some ⟨b, 0, none⟩)] #[], .pointer (some ⟨p1, 0, none⟩), .pointer (some ⟨p2, 0, none⟩), .pointer (some ⟨p3, 0, none⟩)] W fun e w' => e = .returned (.tuple #[.agg #[.int .i64 a0, .int .i64 a1, .int .i64 a2, .int .i64 a3, .int .i64 a4, .int .i64 a5], .int .i64 0]) ∧ ∃ sv', SStep W w' b sv sv' mb L') :
    Calls Tryz.prog 38 #[.pointer (some ⟨b, 0, none⟩), .int .i64 160, .func (.func 39) #[] #[.pointer (some ⟨p1, 0, none⟩), .pointer (some ⟨p2, 0, none⟩), .pointer (some ⟨p3, 0, none⟩)]] w fun e w' => e = .returned (.tuple #[.agg #[.int .i64 a0, .int .i64 a1, .int .i64 a2, .int .i64 a3, .int .i64 a4, .int .i64 a5], .int .i64 0]) ∧ ∃ sv', SStep w w' b sv sv' mb L' := by
  obtain ⟨w0, hw0⟩ : ∃ w0, w0 = w.alloc (.cells #[.int .i64 0, .int .i64 0, .int .i64 0, .int .i64 0, .int .i64 0, .int .i64 0] 38) := ⟨_, rfl⟩
  have x0 : Below w.heap.size w w0 := by rw [hw0]; exact bwA' _ _
  have k0 : w0.heap[w.heap.size]? = some (.cells #[.int .i64 0, .int .i64 0, .int .i64 0, .int .i64 0, .int .i64 0, .int .i64 0] 38 (0, 0)) := by rw [hw0]; exact heap_alloc_new _ _
  have HW := hide hw0
  have S0 : Hid (SStep w w0 b sv sv mb L) := SStep.same h x0
  have KL := hide (len_any b sv mb L w0 (unhide S0).st)
  have KF := hide (K w0 x0)
  obtain ⟨N, hN⟩ : ∃ N : Int, N = (L.length : Int) := ⟨_, rfl⟩
  rw [← hN] at KL
  obtain ⟨R, hR⟩ : ∃ R : Int, R = 1048576 - N := ⟨_, rfl⟩
  have r0 : (1048576 : Int) - N = R := hR.symm
  have r1 : IntKind.i64.wrap R = R := by rw [IntKind.wrap_i64]; omega
  have r2 : 0 < R := by omega
  have r3 : decide (R < 160) = false := decide_eq_false (by omega)
  have r4 : 160 ≤ R := by omega
  clear h hl hw0 x0 hN hR K
  go_enter Tryz.func38, Tryz.ntmps38
  go_wp2_with fail
  rw [← unhide HW]
  refine (unhide KL).mono ?_
  rintro e w0 ⟨rfl, rfl⟩
  clear KL HW
  go_wp2_with fail
  refine (unhide KF).mono ?_
  rintro e w4 ⟨rfl, sv4, s4⟩
  have S4 := hide ((unhide S0).trans s4)
  have k4 := kept_fr k0 (unhide S0).st s4.fr (by decide) (by decide)
  clear s4 S0 k0 KF r0 r1 r2 r3 r4
  have h0 := blk_cell (i := 0) k4 rfl
  have h1 := blk_cell (i := 1) k4 rfl
  have h2 := blk_cell (i := 2) k4 rfl
  have h3 := blk_cell (i := 3) k4 rfl
  have h4 := blk_cell (i := 4) k4 rfl
  have h5 := blk_cell (i := 5) k4 rfl
  have hf := fun i => blk_froz (i := i) k4
  go_wp2_with fail
  obtain ⟨SV, bV⟩ := (unhide S4).six k4 (by decide) (by decide) (by omega) (.int .i64 a0) (.int .i64 a1) (.int .i64 a2) (.int .i64 a3) (.int .i64 a4) (.int .i64 a5)
  generalize ((((((w4.setCell ⟨w.heap.size, 0, none⟩ (.int .i64 a0)).setCell ⟨w.heap.size, 1, none⟩ (.int .i64 a1)).setCell ⟨w.heap.size, 2, none⟩ (.int .i64 a2)).setCell ⟨w.heap.size, 3, none⟩ (.int .i64 a3)).setCell ⟨w.heap.size, 4, none⟩ (.int .i64 a4)).setCell ⟨w.heap.size, 5, none⟩ (.int .i64 a5)) = V at SV bV ⊢
  have g0 := blk_cell (i := 0) bV rfl
  have g1 := blk_cell (i := 1) bV rfl
  have g2 := blk_cell (i := 2) bV rfl
  have g3 := blk_cell (i := 3) bV rfl
  have g4 := blk_cell (i := 4) bV rfl
  have g5 := blk_cell (i := 5) bV rfl
  have HSV := hide SV
  clear SV bV k4 h0 h1 h2 h3 h4 h5 hf S4
  exact bodyPost_ret (v := .tuple #[.agg #[.int .i64 a0, .int .i64 a1, .int .i64 a2, .int .i64 a3, .int .i64 a4, .int .i64 a5], .int .i64 0]) (by simp [results, Tryz.results38, go_sem, g0, g1, g2, g3, g4, g5]) rfl ⟨rfl, sv4, unhide HSV⟩
set_option maxRecDepth 100000 in
set_option maxHeartbeats 4000000 in
theorem aonS_from {b : Nat} {sv : Value} {mb : Nat} {L L' : List Tm} {w : World} (h : St w b sv mb L) (hl : L.length + 160 ≤ 1048576) (p1 p2 : Nat) (a0 a1 a2 a3 a4 a5 : Int)
    (K : ∀ W, Below w.heap.size w W → Calls Tryz.prog 44 #[.func (.func 24) #[.pointer (some ⟨b, 0, none⟩)] #[], .pointer (some ⟨p1, 0, none⟩), .pointer (some ⟨p2, 0, none⟩)] W fun e w' => e = .returned (.tuple #[.agg #[.int .i64 a0, .int .i64 a1, .int .i64 a2, .int .i64 a3, .int .i64 a4, .int .i64 a5], .int .i64 0]) ∧ ∃ sv', SStep W w' b sv sv' mb L') :
    Calls Tryz.prog 38 #[.pointer (some ⟨b, 0, none⟩), .int .i64 160, .func (.func 44) #[] #[.pointer (some ⟨p1, 0, none⟩), .pointer (some ⟨p2, 0, none⟩)]] w fun e w' => e = .returned (.tuple #[.agg #[.int .i64 a0, .int .i64 a1, .int .i64 a2, .int .i64 a3, .int .i64 a4, .int .i64 a5], .int .i64 0]) ∧ ∃ sv', SStep w w' b sv sv' mb L' := by
  obtain ⟨w0, hw0⟩ : ∃ w0, w0 = w.alloc (.cells #[.int .i64 0, .int .i64 0, .int .i64 0, .int .i64 0, .int .i64 0, .int .i64 0] 38) := ⟨_, rfl⟩
  have x0 : Below w.heap.size w w0 := by rw [hw0]; exact bwA' _ _
  have k0 : w0.heap[w.heap.size]? = some (.cells #[.int .i64 0, .int .i64 0, .int .i64 0, .int .i64 0, .int .i64 0, .int .i64 0] 38 (0, 0)) := by rw [hw0]; exact heap_alloc_new _ _
  have HW := hide hw0
  have S0 : Hid (SStep w w0 b sv sv mb L) := SStep.same h x0
  have KL := hide (len_any b sv mb L w0 (unhide S0).st)
  have KF := hide (K w0 x0)
  obtain ⟨N, hN⟩ : ∃ N : Int, N = (L.length : Int) := ⟨_, rfl⟩
  rw [← hN] at KL
  obtain ⟨R, hR⟩ : ∃ R : Int, R = 1048576 - N := ⟨_, rfl⟩
  have r0 : (1048576 : Int) - N = R := hR.symm
  have r1 : IntKind.i64.wrap R = R := by rw [IntKind.wrap_i64]; omega
  have r2 : 0 < R := by omega
  have r3 : decide (R < 160) = false := decide_eq_false (by omega)
  have r4 : 160 ≤ R := by omega
  clear h hl hw0 x0 hN hR K
  go_enter Tryz.func38, Tryz.ntmps38
  go_wp2_with fail
  rw [← unhide HW]
  refine (unhide KL).mono ?_
  rintro e w0 ⟨rfl, rfl⟩
  clear KL HW
  go_wp2_with fail
  refine (unhide KF).mono ?_
  rintro e w4 ⟨rfl, sv4, s4⟩
  have S4 := hide ((unhide S0).trans s4)
  have k4 := kept_fr k0 (unhide S0).st s4.fr (by decide) (by decide)
  clear s4 S0 k0 KF r0 r1 r2 r3 r4
  have h0 := blk_cell (i := 0) k4 rfl
  have h1 := blk_cell (i := 1) k4 rfl
  have h2 := blk_cell (i := 2) k4 rfl
  have h3 := blk_cell (i := 3) k4 rfl
  have h4 := blk_cell (i := 4) k4 rfl
  have h5 := blk_cell (i := 5) k4 rfl
  have hf := fun i => blk_froz (i := i) k4
  go_wp2_with fail
  obtain ⟨SV, bV⟩ := (unhide S4).six k4 (by decide) (by decide) (by omega) (.int .i64 a0) (.int .i64 a1) (.int .i64 a2) (.int .i64 a3) (.int .i64 a4) (.int .i64 a5)
  generalize ((((((w4.setCell ⟨w.heap.size, 0, none⟩ (.int .i64 a0)).setCell ⟨w.heap.size, 1, none⟩ (.int .i64 a1)).setCell ⟨w.heap.size, 2, none⟩ (.int .i64 a2)).setCell ⟨w.heap.size, 3, none⟩ (.int .i64 a3)).setCell ⟨w.heap.size, 4, none⟩ (.int .i64 a4)).setCell ⟨w.heap.size, 5, none⟩ (.int .i64 a5)) = V at SV bV ⊢
  have g0 := blk_cell (i := 0) bV rfl
  have g1 := blk_cell (i := 1) bV rfl
  have g2 := blk_cell (i := 2) bV rfl
  have g3 := blk_cell (i := 3) bV rfl
  have g4 := blk_cell (i := 4) bV rfl
  have g5 := blk_cell (i := 5) bV rfl
  have HSV := hide SV
  clear SV bV k4 h0 h1 h2 h3 h4 h5 hf S4
  exact bodyPost_ret (v := .tuple #[.agg #[.int .i64 a0, .int .i64 a1, .int .i64 a2, .int .i64 a3, .int .i64 a4, .int .i64 a5], .int .i64 0]) (by simp [results, Tryz.results38, go_sem, g0, g1, g2, g3, g4, g5]) rfl ⟨rfl, sv4, unhide HSV⟩
end Go.Proofs.YtcbafeneaoaglaaGreatDoor.Tn
