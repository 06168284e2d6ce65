/- Texts joined: NTmC NTmD NTmE NTmF NTmG NTmH NTmI NTmOnce. -/
import Derived.Test.YtdnfonhodbhcmaaGreatDoorNTmB
/- Contracts of untold and Dag of package term. -/
namespace Go.Proofs.YtdnfonhodbhcmaaGreatDoor.Tn
open Go.RowKit Go.Maps

theorem PMap.look {w : World} {b : Nat} {o : List Nat} (h : PMap w b o) {k : Nat} (hk : k ≤ 1048576) : (Instr.lookup 177 (.map (some b)) (.int .i64 (k : Int)) false).run Tryz.prog w = .ok (.int .i64 (pos o k : Nat)) w := by
  obtain ⟨D, hD, hv⟩ := h
  obtain ⟨c, hr, hc, _⟩ := hD.lookup_int lawInt Tryz.underlying177 Tryz.underlying3 (zeroInt w) (keyOf_int_mk Tryz.underlying3 (wf_i64 (x := (k : Int)) (by omega) (by omega)))
  rw [hv k hk] at hc
  simp only [DataW.lit.injEq, Lit.int.injEq, true_and] at hc
  rw [hc]
  exact hr
theorem PMap.store {w : World} {b : Nat} {o : List Nat} (h : PMap w b o) {m : Nat} (hm : m ∉ o) (hk : m ≤ 1048576) (hl : o.length ≤ 1048576) : ∃ w', (Instr.mapUpdate 177 (.map (some b)) (.int .i64 (m : Int)) (.int .i64 ((o.length : Int) + 1))).run Tryz.prog w = .ok () w' ∧ PMap w' b (o ++ [m]) ∧ w.grownBy w' (some b) := by
  obtain ⟨D, hD, hv⟩ := h
  obtain ⟨w', hr, h1, h2⟩ := hD.update lawInt Tryz.underlying177 (by unfold maxLen; omega) (keyOf_int_mk Tryz.underlying3 (wf_i64 (x := (m : Int)) (by omega) (by omega))) (plainElem_int (a := ((o.length + 1 : Nat) : Int)) Tryz.underlying3 (wf_i64 (by omega) (by omega)))
  refine ⟨w', ?_, PMap.put hD hv hm h1, h2⟩
  have e : ((o.length + 1 : Nat) : Int) = (o.length : Int) + 1 := by omega
  rw [e] at hr
  exact hr

def unt (o : List Nat) (a b : Nat) : Nat := if a ≠ 0 ∧ a ∉ o then a else if b ≠ 0 ∧ b ∉ o then b else 0
theorem pos_zero {o : List Nat} {k : Nat} : pos o k = 0 ↔ k ∉ o := by
  unfold pos; split <;> simp_all

theorem ret_i {k : IntKind} {a b : Int} (h : a = b) : Ending.returned (.int k a) = .returned (.int k b) := by rw [h]

theorem index_two (w : World) (x y : Value) : (Instr.index 91 (.agg #[x, y]) (.int .i64 0)).run Tryz.prog w = .ok x w ∧ (Instr.index 91 (.agg #[x, y]) (.int .i64 1)).run Tryz.prog w = .ok y w := by
  have hs : (Go.sizeOf 3).run Tryz.prog w = .ok 1 w := by kernel_rfl
  have hp : Tryz.prog.plainKey 3 = true := by kernel_rfl
  have hu := Tryz.underlying91
  generalize Tryz.prog = P at *
  have p0 := run_part_plain (w := w) hp (xs := #[x, y]) (off := 0) (v := x) rfl
  have p1 := run_part_plain (w := w) hp (xs := #[x, y]) (off := 1) (v := y) rfl
  constructor
  · simp [Instr.index, run_underlying hu, asIntOf, hs, p0, Result.andThen]
  · simp [Instr.index, run_underlying hu, asIntOf, hs, p1, Result.andThen]

end Go.Proofs.YtdnfonhodbhcmaaGreatDoor.Tn

/- What Dag of package term keeps in memory while it works. No walk is in this text. -/
namespace Go.Proofs.YtdnfonhodbhcmaaGreatDoor.Tn
open Go.RowKit Go.Maps

def NRow (B : Nat) (w : World) (v : Value) (l : List Nat) : Prop := w.ownsRow B 3 1 v l.length (l.map fun m => .int .i64 ((m : Nat) : Int))
theorem NRow.keep {B : Nat} {w w' : World} {v : Value} {l : List Nat} (h : NRow B w v l) (hb : ∀ k, v.ownBlock = some k → w'.heap[k]? = w.heap[k]?) : NRow B w' v l := by
  refine ⟨h.1, ?_⟩
  rcases h.2 with h2 | ⟨g, cap, cur, hv, h0, hg, r⟩
  · exact Or.inl h2
  · exact Or.inr ⟨g, cap, cur, hv, h0, by rw [hb g (by rw [hv]; rfl)]; exact hg, r⟩
theorem NRow.lt {B : Nat} {w : World} {v : Value} {l : List Nat} (h : NRow B w v l) : ∀ k, v.ownBlock = some k → B ≤ k ∧ k < w.heap.size := World.ownsRow.lt h
theorem NRow.block {B : Nat} {w : World} {v : Value} {l : List Nat} {k : Nat} (h : NRow B w v l) (hk : v.ownBlock = some k) : ∃ cur, w.heap[k]? = some (.cells cur 3 (0, 0)) := by
  rcases h.2 with ⟨rfl, _⟩ | ⟨g, cap, cur, rfl, _, hg, _⟩
  · cases hk
  · simp [Value.ownBlock] at hk; subst hk; exact ⟨cur, hg⟩
theorem NRow.form {B : Nat} {w : World} {v : Value} {l : List Nat} (h : NRow B w v l) : (v = .slice none 0 0 ∧ l = []) ∨ ∃ g cap, v = .slice (some ⟨g, 0, none⟩) l.length cap ∧ B ≤ g ∧ g < w.heap.size ∧ l.length ≤ cap ∧ cap ≤ maxLen := by
  rcases h.2 with ⟨h1, h2⟩ | ⟨g, cap, cur, hv, hB, hg, h1, h2, _⟩
  · exact Or.inl ⟨h1, List.length_eq_zero_iff.1 h2⟩
  · exact Or.inr ⟨g, cap, hv, hB, lt_of_blk hg, h1, h2⟩
theorem NRow.at {B : Nat} {w : World} {v : Value} {l : List Nat} (h : NRow B w v l) {g : Nat} (hg : v.ownBlock = some g) {i m : Nat} (hi : l[i]? = some m) : w.cell? ⟨g, i, none⟩ = some (.int .i64 (m : Int)) := by
  have := World.ownsRow.cells h hg i (.int .i64 (m : Int)) (by simp [hi])
  cases i <;> simpa [Addr.add] using this
theorem NRow.pop {B : Nat} {w : World} {g cap : Nat} {l : List Nat} {m : Nat} (h : NRow B w (.slice (some ⟨g, 0, none⟩) (l.length + 1) cap) (l ++ [m])) : NRow B w (.slice (some ⟨g, 0, none⟩) l.length cap) l := by
  refine ⟨by simp, ?_⟩
  rcases h.2 with ⟨h1, _⟩ | ⟨g', cap', cur, hv, hB, hg, h1, h2, h3, h4⟩
  · cases h1
  · simp only [Value.slice.injEq, Option.some.injEq, Addr.mk.injEq, and_true] at hv
    obtain ⟨rfl, _, rfl⟩ := hv
    refine Or.inr ⟨g, cap, cur, rfl, hB, hg, by simp at h1; omega, h2, h3, ?_⟩
    have e := congrArg (List.take l.length) h4
    rw [List.take_take] at e
    simp only [List.length_append, List.length_cons, List.length_nil, Nat.mul_one, List.map_append] at e
    rw [show min l.length (l.length + (0 + 1)) = l.length by omega] at e
    rw [Nat.mul_one, e]
    simp
theorem term_ne_int : (64 : TypeId) ≠ 3 := by decide
theorem rows_apart {B B' : Nat} {w : World} {u v : Value} {l : List Tm} {k : List Nat} {x : Nat} (h : TmRow B w u l) (h' : NRow B' w v k) (hx : u.ownBlock = some x) : v.ownBlock ≠ some x := by
  intro c
  obtain ⟨_, h1⟩ := h.block hx
  obtain ⟨_, h2⟩ := h'.block c
  rw [h1] at h2
  simp only [Option.some.injEq, Obj.cells.injEq] at h2
  exact term_ne_int h2.2.1
theorem PMap.block {w : World} {b : Nat} {o : List Nat} (h : PMap w b o) : ∃ es clock, w.heap[b]? = some (.map es clock) := by
  obtain ⟨D, ⟨es, clock, hb, _⟩, _⟩ := h; exact ⟨es, clock, hb⟩

structure Dg (w wr : World) (L : List Tm) (M : Nat) (lv bv : Value) (stk o : List Nat) : Prop where
  beg : Begun L stk o
  told : Told L o
  rl : TmRow w.heap.size wr lv (outs L o)
  rb : NRow w.heap.size wr bv stk
  pm : PMap wr M o
  hM : w.heap.size ≤ M
  bel : Below w.heap.size w wr
theorem Dg.apart {w wr : World} {L : List Tm} {M : Nat} {lv bv : Value} {stk o : List Nat} (h : Dg w wr L M lv bv stk o) : lv.ownBlock ≠ some M ∧ bv.ownBlock ≠ some M ∧ ∀ x, lv.ownBlock = some x → bv.ownBlock ≠ some x := by
  obtain ⟨es, clock, hm⟩ := h.pm.block
  refine ⟨fun c => ?_, fun c => ?_, fun x hx => rows_apart h.rl h.rb hx⟩
  · obtain ⟨_, h1⟩ := h.rl.block c; rw [hm] at h1; simp at h1
  · obtain ⟨_, h1⟩ := h.rb.block c; rw [hm] at h1; simp at h1
theorem Dg.new {w wr w' : World} {L : List Tm} {M : Nat} {lv bv : Value} {stk o : List Nat} (h : Dg w wr L M lv bv stk o) (hb : Below wr.heap.size wr w') : Dg w w' L M lv bv stk o :=
  ⟨h.beg, h.told, h.rl.bw hb, h.rb.keep (fun k hk => hb.block k (h.rb.lt k hk).2), h.pm.bw hb, h.hM, bw_tr h.bel hb⟩
theorem Dg.push {w w1 w2 : World} {L : List Tm} {M : Nat} {lv bv v' : Value} {stk o : List Nat} {m p : Nat} {ob : Obj} (h : Dg w w1 L M lv bv (stk ++ [m]) o) (hown : w2.ownsRow w.heap.size 3 1 v' ((stk ++ [m]).length + 1) ((stk ++ [m]).map (fun m => .int .i64 ((m : Nat) : Int)) ++ [.int .i64 (p : Int)]))
    (hg : (w1.alloc ob).grownBy w2 bv.ownBlock) (h1 : 1 ≤ p) (h2 : p < m) (ho : p ∉ o) : Dg w w2 L M lv v' (stk ++ [m] ++ [p]) o := by
  obtain ⟨a1, a2, a3⟩ := h.apart
  have hs := h.bel.size
  have old : ∀ k, k < w1.heap.size → bv.ownBlock ≠ some k → w2.heap[k]? = w1.heap[k]? := fun k hk hn => by
    rw [hg.block k (by simp; omega) (fun c => hn c.symm), Below.heap_alloc _ _ _ hk]
  refine ⟨h.beg.push h1 h2 ho, h.told, h.rl.keep (fun k hk => old k (h.rl.lt k hk).2 (a3 k hk)), ?_, h.pm.keep (old M h.pm.lt a2), h.hM, ?_⟩
  · unfold NRow; simpa using hown
  · exact (h.bel.alloc hs ob).grown hg (by simp; omega) (fun k hk => (h.rb.lt k hk).1)
theorem Dg.tell {w w1 w2 w3 w4 : World} {L : List Tm} {M : Nat} {lv bv bv' v' : Value} {stk o : List Nat} {m : Nat} {ob : Obj} (h : Dg w w1 L M lv bv (stk ++ [m]) o) (h12 : Below w1.heap.size w1 w2) (hbv : bv'.ownBlock = bv.ownBlock) (hrb : NRow w.heap.size w1 bv' stk)
    (hown : w3.ownsRow w.heap.size 64 4 v' ((outs L o).length + 1) ((outs L o).flatMap tmC ++ tmC (tr o (tmAt L m)))) (hg : (w2.alloc ob).grownBy w3 lv.ownBlock) (hat : v'.ownBlock = lv.ownBlock ∨ v'.ownBlock = some (w2.alloc ob).heap.size)
    (hpm : PMap w4 M (o ++ [m])) (hg4 : w3.grownBy w4 (some M)) (hA : pA L m = 0 ∨ pA L m ∈ o) (hB : pB L m = 0 ∨ pB L m ∈ o) : Dg w w4 L M v' bv' stk (o ++ [m]) := by
  obtain ⟨a1, a2, a3⟩ := h.apart
  have hm := h.beg.rng m (by simp)
  have hs := h.bel.size
  have hs2 := h12.size
  have old : ∀ k, k < w1.heap.size → lv.ownBlock ≠ some k → w3.heap[k]? = w1.heap[k]? := fun k hk hn => by
    rw [hg.block k (by simp; omega) (fun c => hn c.symm), Below.heap_alloc _ _ _ (by omega), h12.block k hk]
  have hvM : v'.ownBlock ≠ some M := by
    rcases hat with c | c
    · rw [c]; exact a1
    · rw [c]; intro e; have := h.pm.lt; simp at e; omega
  have hr3 : TmRow w.heap.size w3 v' (outs L (o ++ [m])) := by
    rw [outs_snoc h.told hm.1 hm.2.1 hm.2.2 hA hB]
    unfold TmRow; rw [flat_snoc, List.length_append]; exact hown
  refine ⟨h.beg.pop, h.told.snoc hm.1 hm.2.1 hm.2.2 hA hB, ?_, ?_, hpm, h.hM, ?_⟩
  · exact hr3.keep fun k hk => hg4.block k (hr3.lt k hk).2 (fun c => hvM (by rw [hk, c]))
  · refine hrb.keep fun k hk => ?_
    have hk1 := (hrb.lt k hk).2
    have hkl : lv.ownBlock ≠ some k := fun c => a3 k c (by rw [← hbv]; exact hk)
    have hkM : some k ≠ some M := fun c => a2 (by rw [← hbv, hk, c])
    rw [hg4.block k (by have := hg.size; simp at this; omega) hkM, old k hk1 hkl]
  · have b2 : Below w.heap.size w w2 := bw_tr h.bel h12
    have b3 : Below w.heap.size w w3 := (b2.alloc b2.size ob).grown hg (by simp; have := b2.size; omega) (fun k hk => (h.rl.lt k hk).1)
    exact b3.grown hg4 b3.size (fun k hk => by cases hk; exact h.hM)

end Go.Proofs.YtdnfonhodbhcmaaGreatDoor.Tn

/- The contract of Dag of package term. -/
namespace Go.Proofs.YtdnfonhodbhcmaaGreatDoor.Tn
open Go.RowKit Go.Maps

def lenOf : Value → Nat
  | .slice _ n _ => n
  | _ => 0
theorem unt_step {L : List Tm} (hG : Good L) {m : Nat} {o : List Nat} (h1 : 1 ≤ m) (h2 : m ≤ L.length) (ho : m ∉ o) (h : unt o (pA L m) (pB L m) ≠ 0) :
    1 ≤ unt o (pA L m) (pB L m) ∧ unt o (pA L m) (pB L m) < m ∧ unt o (pA L m) (pB L m) ∉ o ∧ ordF L L.length m (ordF L L.length (unt o (pA L m) (pB L m)) o) = ordF L L.length m o := by
  obtain ⟨p1, p2⟩ := hG.parts h1 h2
  unfold unt at h ⊢
  by_cases c1 : pA L m ≠ 0 ∧ pA L m ∉ o
  · rw [if_pos c1]
    exact ⟨by omega, p1, c1.2, ordF_pushA hG h1 h2 h2 ho⟩
  · rw [if_neg c1] at h ⊢
    by_cases c2 : pB L m ≠ 0 ∧ pB L m ∉ o
    · rw [if_pos c2]
      refine ⟨by omega, p2, c2.2, ordF_pushB hG h1 h2 h2 ho ?_⟩
      by_cases c : pA L m = 0
      · exact Or.inl c
      · exact Or.inr (Classical.byContradiction fun q => c1 ⟨c, q⟩)
    · rw [if_neg c2] at h; exact absurd rfl h
theorem unt_none {o : List Nat} {a b : Nat} (h : unt o a b = 0) : (a = 0 ∨ a ∈ o) ∧ (b = 0 ∨ b ∈ o) := by
  unfold unt at h
  split at h
  · rename_i c; exact absurd h c.1
  · rename_i c1
    split at h
    · rename_i c; exact absurd h c.1
    · rename_i c2
      exact ⟨Classical.byContradiction fun q => c1 ⟨fun z => q (Or.inl z), fun z => q (Or.inr z)⟩, Classical.byContradiction fun q => c2 ⟨fun z => q (Or.inl z), fun z => q (Or.inr z)⟩⟩

theorem Dg.start {w : World} {L : List Tm} {n : Nat} (h1 : 1 ≤ n) (h2 : n ≤ L.length) : Dg w ((w.alloc (.map #[] 0)).alloc (.cells #[.int .i64 (n : Int)] 3)) L w.heap.size (.slice none 0 0) (.slice (some ⟨w.heap.size + 1, 0, none⟩) 1 1) [n] [] := by
  have e : (w.alloc (.map #[] 0)).heap.size = w.heap.size + 1 := by simp
  refine ⟨⟨by simp; omega, by simp⟩, told_nil L, TmRow.nil _ _, ?_, ?_, Nat.le_refl _, ?_⟩
  · refine ⟨rfl, Or.inr ⟨w.heap.size + 1, 1, #[.int .i64 (n : Int)], rfl, by omega, ?_, Nat.le_refl _, by unfold maxLen; omega, rfl, rfl⟩⟩
    rw [← e]; exact heap_alloc_new _ _
  · exact (PMap.made w).bw ((Below.refl _ _).alloc (Nat.le_refl _) _)
  · exact ((Below.refl _ _).alloc (Nat.le_refl _) _).alloc (by simp) _

theorem slice_upto (w : World) (g n cap i : Nat) (hi : i ≤ n) (hc : n ≤ cap) : (Instr.slice 27 (.slice (some ⟨g, 0, none⟩) n cap) none (some (.int .i64 (i : Int))) none).run Tryz.prog w = .ok (.slice (some ⟨g, 0, none⟩) i cap) w := by
  have ht : Tryz.prog.underlying 27 = some (.slice (Tryz.prog.elem 27)) := by kernel_rfl
  have he : Tryz.prog.elem 27 = 3 := by kernel_rfl
  have hs : (Go.sizeOf 3).run Tryz.prog w = .ok 1 w := by kernel_rfl
  rw [run_slice_h (P := Tryz.prog) w 27 (some ⟨g, 0, none⟩) n cap ht .i64 i (by omega) (by omega), he, hs]
  simp [Result.andThen, sliced, Addr.add]
theorem own_form {B : Nat} {w : World} {e : TypeId} {c : Nat} {v : Value} {n : Nat} {xs : List Value} (h : w.ownsRow B e c v (n + 1) xs) : ∃ g cap, v = .slice (some ⟨g, 0, none⟩) (n + 1) cap := by
  rcases h.2 with ⟨_, h⟩ | ⟨g, cap, _, h, _⟩
  · omega
  · exact ⟨g, cap, h⟩
theorem fin_snoc (L : List Tm) (f : Nat) (s o : List Nat) (m : Nat) : fin L f (s ++ [m]).reverse o = fin L f s.reverse (ordF L f m o) := by
  rw [List.reverse_append]; rfl
theorem lenOf_row {B : Nat} {w : World} {v : Value} {l : List Tm} (h : TmRow B w v l) : lenOf v = l.length := by
  rcases h.form with ⟨rfl, rfl⟩ | ⟨g, cap, rfl, _⟩ <;> rfl

theorem meas {N a q : Nat} (h : a < N) (hq : q + 1 ≤ N) : (N - (a + 1)) * (N + 2) + (N + 1 - q) < (N - a) * (N + 2) + (N + 1 - (q + 1)) := by
  have e : N - a = (N - (a + 1)) + 1 := by omega
  rw [e, Nat.succ_mul]
  generalize (N - (a + 1)) * (N + 2) = Z
  omega

end Go.Proofs.YtdnfonhodbhcmaaGreatDoor.Tn

/- Contracts of New, List and Data of package term. -/
namespace Go.Proofs.YtdnfonhodbhcmaaGreatDoor.Tn
open Go.RowKit Go.Maps

set_option maxRecDepth 100000 in
set_option maxHeartbeats 400000 in
theorem new_any (w : World) :
    Calls Tryz.prog 30 #[] w fun e w' => ∃ b mb, e = .returned (.pointer (some ⟨b, 0, none⟩)) ∧ St w' b (.slice none 0 0) mb [] ∧ (∀ x ∈ foot b (.slice none 0 0) mb, w.heap.size ≤ x) ∧ Below w.heap.size w w' := by
  have hmm := @run_makeMap Tryz.prog
  go_enter Tryz.func30, Tryz.ntmps30
  go_wp2
  go_ret
  refine ⟨w.heap.size + 1, w.heap.size, rfl, ⟨?_, TmRow.nil _ _, ?_, good_nil, by simp⟩, ?_, ?_⟩
  · have e : (w.alloc (.map #[] 0)).heap.size = w.heap.size + 1 := by simp
    rw [← e]; exact heap_alloc_new _ _
  · exact (TMap.made w).keep (Below.heap_alloc _ _ _ (by simp))
  · intro x hx
    rcases mem_foot.1 hx with rfl | rfl | hx
    · omega
    · omega
    · cases hx
  · exact ((Below.refl _ _).alloc (Nat.le_refl _) _).alloc (by simp) _

def NIs (w : World) (v : Value) (l : List Int) : Prop :=
  ∃ a cap, v = .slice a l.length cap ∧ l.length ≤ 140737488355328 ∧ (∀ z ∈ l, -9223372036854775808 ≤ z ∧ z ≤ 9223372036854775807) ∧ (l = [] ∨ ∃ g o, a = some ⟨g, o, none⟩ ∧ ∀ i z, l[i]? = some z → w.cell? ⟨g, o + i, none⟩ = some (.int .i64 z))
theorem NIs.fr {S : List Nat} {w w' : World} {v : Value} {l : List Int} (h : NIs w v l) (hb : Fr S w w') (hS : ∀ k, v.ownBlock = some k → k ∉ S) : NIs w' v l := by
  obtain ⟨a, cap, rfl, hl, hz, hc⟩ := h
  refine ⟨a, cap, rfl, hl, hz, ?_⟩
  rcases hc with hc | ⟨g, o, rfl, hc⟩
  · exact Or.inl hc
  · refine Or.inr ⟨g, o, rfl, fun i z ht => ?_⟩
    have := hc i z ht
    rw [World.cell?_of_block (w := w) (hb.block g (lt_of_cell this) (hS g rfl))]
    exact this
theorem NIs.bw {w w' : World} {v : Value} {l : List Int} (h : NIs w v l) (hb : Below w.heap.size w w') : NIs w' v l := h.fr (Fr.ofBelow hb) (by simp)

def lsF : List Tm → List Int → Int → List Tm × Int × Int
  | L, [], n => (L, n, 0)
  | L, a :: r, n => if mkE L ⟨3, 0, a, n⟩ = 0 then lsF (mkL L ⟨3, 0, a, n⟩) r (mkN L ⟨3, 0, a, n⟩ : Nat) else (mkL L ⟨3, 0, a, n⟩, 0, mkE L ⟨3, 0, a, n⟩)
def ls (L : List Tm) (l : List Int) : List Tm × Int × Int :=
  if l.all (thr L.length) = true then (match l.reverse with | [] => (L, 0, 0) | n :: r => lsF L r n) else (L, 0, 1)

theorem mkN_bd {L : List Tm} (h : Good L) (t : Tm) : (mkN L t : Int) ≤ 1048576 := by
  have := h.len
  unfold mkN
  split
  · split
    · have := num_le L t; omega
    · split <;> omega
  · omega

theorem ret_two {a b c d : Int} (h1 : a = b) (h2 : c = d) : Ending.returned (.tuple #[.int .i64 a, .int .i64 c]) = .returned (.tuple #[.int .i64 b, .int .i64 d]) := by rw [h1, h2]

theorem ls_end {p : List Tm × Int × Int} {L' : List Tm} {n e : Int} (h : p = (L', n, e)) : Ending.returned (.tuple #[.int .i64 n, .int .i64 e]) = .returned (.tuple #[.int .i64 p.2.1, .int .i64 p.2.2]) := by subst h; rfl
theorem ls_step {p : List Tm × Int × Int} {L' : List Tm} {n e : Int} {w w' : World} {b : Nat} {sv sv' : Value} {mb : Nat} (h : p = (L', n, e)) (k : SStep w w' b sv sv' mb L') : SStep w w' b sv sv' mb p.1 := by subst h; exact k

set_option maxRecDepth 100000 in
set_option maxHeartbeats 4000000 in
theorem list_any (b : Nat) (sv : Value) (mb : Nat) (L : List Tm) (v : Value) (l : List Int) (w : World) (h : St w b sv mb L) (hv : NIs w v l) (hsep : ∀ k, v.ownBlock = some k → k ∉ foot b sv mb) :
    Calls Tryz.prog 85 #[.pointer (some ⟨b, 0, none⟩), v] w fun e w' => e = .returned (.tuple #[.int .i64 (ls L l).2.1, .int .i64 (ls L l).2.2]) ∧ ∃ sv', SStep w w' b sv sv' mb (ls L l).1 := by
  have K := missing_any b sv mb L w h
  have KH := fun x => has_any b sv mb L x w h
  have hv' := hv
  obtain ⟨a, cap, rfl, hl, hz, hc⟩ := hv'
  obtain ⟨N, hN⟩ : ∃ N, N = l.length := ⟨_, rfl⟩
  rw [← hN]
  have hNb : (N : Int) ≤ 140737488355328 := by omega
  have HN := hide hN
  have HH := hide h
  have HV := hide hv
  have HKH := hide KH
  clear hN hl h hv KH
  go_enter Tryz.func85, Tryz.ntmps85
  go_wp2_with fail
  refine K.mono ?_
  rintro e w ⟨rfl, rfl⟩
  go_wp2_with fail
  go_loopw [15] (fun iv wr => ∃ k : Nat, k ≤ N ∧ iv = .int .i64 (k : Int) ∧ wr = w ∧ Hid ((l.take k).all (thr L.length) = true)) (fun iv _ => (N - intOf iv).toNat)
  case atStart => exact ⟨0, Nat.zero_le _, rfl, rfl, by simp [Hid]⟩
  case round =>
    obtain ⟨k, hk, rfl, hwr, HA⟩ := hrel
    obtain rfl : w = wr := hwr.symm
    by_cases hlt : k < N
    · obtain ⟨z, hzk⟩ : ∃ z, l[k]? = some z := ⟨_, List.getElem?_eq_getElem (by rw [← unhide HN]; exact hlt)⟩
      rcases hc with hc | ⟨g, o, rfl, hc⟩
      · rw [hc] at hzk; simp at hzk
      · have cz := hc k z hzk
        have KZ := unhide HKH z
        cases ht : thr L.length z
        · have e : ls L l = (L, 0, 1) := by
            unfold ls
            rw [if_neg]
            intro c
            have := List.all_eq_true.1 c z (List.mem_of_getElem? hzk)
            rw [ht] at this; cases this
          rw [ht] at KZ
          have HE := hide e
          clear hzk e ht hc hz
          go_wp2_with fail
          refine KZ.mono ?_
          rintro e w2 ⟨rfl, rfl⟩
          go_wp2_with fail
          go_ret2
          exact ⟨ls_end (unhide HE), _, ls_step (unhide HE) (SStep.refl (unhide HH))⟩
        · have HA' : Hid ((l.take (k + 1)).all (thr L.length) = true) := by
            unfold Hid
            rw [List.take_add_one, hzk]
            simp [ht]
            exact (by simpa using unhide HA)
          rw [ht] at KZ
          clear hzk ht hc hz HA
          go_wp2_with fail
          refine KZ.mono ?_
          rintro e w2 ⟨rfl, rfl⟩
          go_wp2_with fail
          go_roundw
          case rel => exact ⟨k + 1, by omega, by go_num, trivial, HA'⟩
          case measure => simp only [intOf]; omega
    · have hall : l.all (thr L.length) = true := by
        have := unhide HA
        rwa [List.take_of_length_le (by rw [← unhide HN]; omega)] at this
      rcases Nat.eq_zero_or_pos N with h0 | h0
      · have e : ls L l = (L, 0, 0) := by
          have : l = [] := List.length_eq_zero_iff.1 (by rw [← unhide HN]; exact h0)
          subst this; simp [ls]
        have HE := hide e
        subst h0
        clear e hall hc hz hlt HA
        go_wp2_with fail
        go_ret2
        exact ⟨ls_end (unhide HE), _, ls_step (unhide HE) (SStep.refl (unhide HH))⟩
      · obtain ⟨q, hq⟩ : ∃ q, N = q + 1 := ⟨N - 1, by omega⟩
        subst hq
        obtain ⟨n0, hn0⟩ : ∃ z, l[q]? = some z := ⟨_, List.getElem?_eq_getElem (by rw [← unhide HN]; omega)⟩
        have hstart : lsF L (l.take q).reverse n0 = ls L l := by
          have e : l = l.take q ++ [n0] := by
            have e1 : l.take (q + 1) = l := List.take_of_length_le (by rw [← unhide HN]; omega)
            rw [List.take_add_one, hn0] at e1
            exact e1.symm
          unfold ls
          rw [if_pos hall]
          conv => rhs; rw [e]
          rw [List.reverse_append]
          rfl
        rcases hc with hc | ⟨g, o, rfl, hc⟩
        · rw [hc] at hn0; simp at hn0
        have cn := hc q n0 hn0
        have hn0b := hz n0 (List.mem_of_getElem? hn0)
        have HC := hide (And.intro hc hz)
        have HS := hide hstart
        have HSep := hide hsep
        obtain ⟨k', rfl⟩ : ∃ k', k = k' := ⟨k, rfl⟩
        have hqb : (q : Int) ≤ 140737488355328 := by omega
        have hkq : (k : Int) = (q : Int) + 1 := by omega
        clear hall hc hz hn0 hstart HA hsep HKH hNb
        obtain rfl : k = q + 1 := by omega
        clear hk hlt h0 hkq
        go_wp2_with fail
        go_loopw [8, 9] (fun nv iv wq => ∃ (j : Nat) (L' : List Tm) (sv' : Value) (n : Int), j ≤ q ∧ iv = .int .i64 ((j : Int) - 1) ∧ nv = .int .i64 n ∧ (-9223372036854775808 ≤ n ∧ n ≤ 9223372036854775807) ∧ Hid (lsF L' (l.take j).reverse n = ls L l) ∧ SStep w wq b sv sv' mb L') (fun _ iv _ => (intOf iv + 1).toNat)
        case atStart => exact ⟨q, L, sv, n0, Nat.le_refl _, by go_num, rfl, hn0b, HS, SStep.refl (unhide HH)⟩
        case round =>
          obtain ⟨j, L', sv', n, hj, rfl, rfl, hnb, HF, hst⟩ := hrel
          rcases Nat.eq_zero_or_pos j with hj0 | hj0
          · subst hj0
            have e : ls L l = (L', n, 0) := by have := unhide HF; simpa [lsF] using this.symm
            have HE := hide e
            clear e HF
            go_wp2_with fail
            go_ret2
            exact ⟨ls_end (unhide HE), _, ls_step (unhide HE) hst⟩
          · obtain ⟨j', rfl⟩ : ∃ j', j = j' + 1 := ⟨j - 1, by omega⟩
            obtain ⟨z, hzj⟩ : ∃ z, l[j']? = some z := ⟨_, List.getElem?_eq_getElem (by rw [← unhide HN]; omega)⟩
            have hzb := (unhide HC).2 z (List.mem_of_getElem? hzj)
            have cz : wr.cell? ⟨g, o + j', none⟩ = some (.int .i64 z) := by
              have := (unhide HC).1 j' z hzj
              rw [World.cell?_of_block (w := w) (hst.fr.block g (lt_of_cell this) (unhide HSep g rfl))]
              exact this
            have htk : (l.take (j' + 1)).reverse = z :: (l.take j').reverse := by rw [List.take_add_one, hzj]; simp
            have hF := unhide HF
            rw [htk] at hF
            have hok : (⟨3, 0, z, n⟩ : Tm).ok := ⟨by simp, by simp, by simp, by simp, hzb.1, hzb.2, hnb.1, hnb.2⟩
            have KM := make_any b sv' mb L' ⟨3, 0, z, n⟩ _ hst.st hok
            have hG := hst.st.good
            have hNm := mkN_bd hG ⟨3, 0, z, n⟩
            have hjb : (j' : Int) ≤ 140737488355328 := by omega
            have hjq : (j' : Int) < (q : Int) + 1 := by omega
            simp only at KM
            clear htk HF hzj hG
            by_cases he : mkE L' ⟨3, 0, z, n⟩ = 0
            · have HF' : Hid (lsF (mkL L' ⟨3, 0, z, n⟩) (l.take j').reverse (mkN L' ⟨3, 0, z, n⟩ : Nat) = ls L l) := by
                unfold Hid; rw [← hF]; simp [lsF, he]
              rw [he] at KM
              clear he hF
              generalize mkN L' ⟨3, 0, z, n⟩ = n' at *
              generalize mkL L' ⟨3, 0, z, n⟩ = L2 at *
              go_wp2_with fail
              refine KM.mono ?_
              rintro e w4 ⟨rfl, sv2, hst2⟩
              have hst3 := hst.trans hst2
              clear hst2
              go_wp2_with fail
              go_roundw
              case rel => exact ⟨j', L2, sv2, n', by omega, by go_num, rfl, by omega, HF', hst3⟩
              case measure => simp only [intOf]; omega
            · have e : ls L l = (mkL L' ⟨3, 0, z, n⟩, 0, mkE L' ⟨3, 0, z, n⟩) := by rw [← hF]; simp [lsF, he]
              have HE := hide e
              have z1 : (mkE L' ⟨3, 0, z, n⟩ == 0) = false := by simpa using he
              clear e hF
              generalize mkN L' ⟨3, 0, z, n⟩ = n' at *
              generalize mkL L' ⟨3, 0, z, n⟩ = L2 at *
              generalize mkE L' ⟨3, 0, z, n⟩ = e2 at *
              go_wp2_with fail
              refine KM.mono ?_
              rintro e w4 ⟨rfl, sv2, hst2⟩
              have hst3 := hst.trans hst2
              clear hst2
              go_wp2_with fail
              go_ret2
              exact ⟨ls_end (unhide HE), _, ls_step (unhide HE) hst3⟩

end Go.Proofs.YtdnfonhodbhcmaaGreatDoor.Tn

/- The contract of Data of package term. -/
namespace Go.Proofs.YtdnfonhodbhcmaaGreatDoor.Tn
open Go.RowKit Go.Maps

def dtF : List Tm → List Int → List Nat → List Tm × Int × Int
  | L, [], acc => ls L (acc.map fun (m : Nat) => (m : Int))
  | L, n :: r, acc => if mkE L ⟨2, n, 0, 0⟩ = 0 then dtF (mkL L ⟨2, n, 0, 0⟩) r (acc ++ [mkN L ⟨2, n, 0, 0⟩]) else (mkL L ⟨2, n, 0, 0⟩, 0, mkE L ⟨2, n, 0, 0⟩)
def dt (L : List Tm) (l : List Int) : List Tm × Int × Int := dtF L l []

theorem NRow.nil (B : Nat) (w : World) : NRow B w (.slice none 0 0) [] := World.ownsRow_nil _ _ _ _
theorem NRow.foot {B : Nat} {w : World} {v : Value} {l : List Nat} {b : Nat} {sv : Value} {mb : Nat} {L : List Tm} (h : NRow B w v l) (hs : St w b sv mb L) : ∀ k, v.ownBlock = some k → k ∉ foot b sv mb := by
  intro k hk c
  obtain ⟨cur, hc⟩ := h.block hk
  rcases mem_foot.1 c with rfl | rfl | c
  · have := hs.blk; rw [hc] at this; simp at this
  · obtain ⟨es, clock, hm⟩ := hs.map.block; rw [hc] at hm; simp at hm
  · exact rows_apart hs.row h c hk
theorem NRow.nis {B : Nat} {w : World} {v : Value} {l : List Nat} (h : NRow B w v l) (hl : l.length ≤ 140737488355328) (hz : ∀ m ∈ l, m ≤ 1048576) : NIs w v (l.map fun (m : Nat) => (m : Int)) := by
  rcases h.form with ⟨rfl, rfl⟩ | ⟨g, cap, hv, _⟩
  · exact ⟨none, 0, rfl, by simp, by simp, Or.inl rfl⟩
  · refine ⟨_, cap, by rw [List.length_map]; exact hv, by simpa using hl, fun z hz' => ?_, Or.inr ⟨g, 0, rfl, fun i z hi => ?_⟩⟩
    · obtain ⟨m, hm, rfl⟩ := List.mem_map.1 hz'
      have := hz m hm; omega
    · rw [List.getElem?_map] at hi
      cases hm : l[i]? with
      | none => rw [hm] at hi; cases hi
      | some m =>
        rw [hm] at hi
        simp only [Option.map_some, Option.some.injEq] at hi
        subst hi
        rw [Nat.zero_add]
        exact h.at (by rw [hv]; rfl) hm
theorem SStep.beside {w w4 w5 : World} {b : Nat} {sv sv2 : Value} {mb : Nat} {L : List Tm} {nv : Value} {acc : List Nat} {ob : Obj} (h : SStep w w4 b sv sv2 mb L) (hn : NRow w.heap.size w4 nv acc) (hg : (w4.alloc ob).grownBy w5 nv.ownBlock) : SStep w w5 b sv sv2 mb L := by
  have f1 : Fr nv.ownBlock.toList w4 w5 := ((Fr.refl nv.ownBlock.toList w4).alloc ob).tr (Fr.ofGrown hg)
  have hd := hn.foot h.st
  refine ⟨h.st.keep f1 (fun x hx c => hd x (by simpa using c) hx), ?_, h.place⟩
  exact h.fr.trans f1 (fun _ _ c => c) (fun x hx c => by have := (hn.lt x (by simpa using c)).1; omega)
theorem NRow.grown {w w4 : World} {v' : Value} {acc : List Nat} {n : Nat} (h : w4.ownsRow w.heap.size 3 1 v' (acc.length + 1) (acc.map (fun m => .int .i64 ((m : Nat) : Int)) ++ [.int .i64 (n : Int)])) : NRow w.heap.size w4 v' (acc ++ [n]) := by
  unfold NRow; simpa using h

end Go.Proofs.YtdnfonhodbhcmaaGreatDoor.Tn

/- Contracts of SameTerms and of lives, the end of every law of layer 3. -/
namespace Go.Proofs.YtdnfonhodbhcmaaGreatDoor.Tn
open Go.RowKit Go.Maps

theorem tm_ne {t u : Tm} (h : t ≠ u) : t.kd ≠ u.kd ∨ (t.kd = u.kd ∧ t.n ≠ u.n) ∨ (t.kd = u.kd ∧ t.n = u.n ∧ t.a ≠ u.a) ∨ (t.kd = u.kd ∧ t.n = u.n ∧ t.a = u.a ∧ t.b ≠ u.b) := by
  obtain ⟨k, n, a, b⟩ := t
  obtain ⟨k', n', a', b'⟩ := u
  simp only [ne_eq, Tm.mk.injEq, not_and] at h ⊢
  by_cases h1 : k = k'
  · by_cases h2 : n = n'
    · by_cases h3 : a = a'
      · exact Or.inr (Or.inr (Or.inr ⟨h1, h2, h3, h h1 h2 h3⟩))
      · exact Or.inr (Or.inr (Or.inl ⟨h1, h2, h3⟩))
    · exact Or.inr (Or.inl ⟨h1, h2⟩)
  · exact Or.inl h1

end Go.Proofs.YtdnfonhodbhcmaaGreatDoor.Tn

/- The contract of lives, the end of every law of layer 3. -/
namespace Go.Proofs.YtdnfonhodbhcmaaGreatDoor.Tn
open Go.RowKit Go.Maps

def l1 : List Tm := [⟨1, 7, 0, 0⟩]
def l2 : List Tm := [⟨1, 7, 0, 0⟩, ⟨2, 3, 0, 0⟩]
def l3 : List Tm := [⟨1, 7, 0, 0⟩, ⟨2, 3, 0, 0⟩, ⟨3, 0, 1, 2⟩]
theorem lives_facts : mkN [] ⟨1, 7, 0, 0⟩ = 1 ∧ mkE [] ⟨1, 7, 0, 0⟩ = 0 ∧ mkL [] ⟨1, 7, 0, 0⟩ = l1 ∧ dt l1 [3] = (l2, 2, 0) ∧ ls l2 [1, 2] = (l3, 3, 0) ∧ dag l3 3 = l3 := by decide +kernel

theorem nis_one (w : World) (x : Int) (t : TypeId) (h : -9223372036854775808 ≤ x ∧ x ≤ 9223372036854775807) : NIs (w.alloc (.cells #[.int .i64 x] t)) (.slice (some ⟨w.heap.size, 0, none⟩) 1 1) [x] := by
  refine ⟨_, 1, rfl, by simp, by simpa using h, Or.inr ⟨w.heap.size, 0, rfl, fun i z hi => ?_⟩⟩
  match i, hi with
  | 0, hi => simp at hi; subst hi; unfold World.cell?; simp only [heap_alloc_new]; rfl
  | i + 1, hi => simp at hi
theorem nis_two (w : World) (x y : Int) (t : TypeId) (h : -9223372036854775808 ≤ x ∧ x ≤ 9223372036854775807) (h' : -9223372036854775808 ≤ y ∧ y ≤ 9223372036854775807) : NIs (w.alloc (.cells #[.int .i64 x, .int .i64 y] t)) (.slice (some ⟨w.heap.size, 0, none⟩) 2 2) [x, y] := by
  refine ⟨_, 2, rfl, by simp, ?_, Or.inr ⟨w.heap.size, 0, rfl, fun i z hi => ?_⟩⟩
  · intro z hz
    rcases List.mem_cons.1 hz with rfl | hz
    · exact h
    · simp at hz; subst hz; exact h'
  · match i, hi with
    | 0, hi => simp at hi; subst hi; unfold World.cell?; simp only [heap_alloc_new]; rfl
    | 1, hi => simp at hi; subst hi; unfold World.cell?; simp only [heap_alloc_new]; rfl
    | i + 2, hi => simp at hi
theorem sep_new {w : World} {b : Nat} {sv : Value} {mb : Nat} {L : List Tm} (h : St w b sv mb L) (n c : Nat) : ∀ k, (Value.slice (some ⟨w.heap.size, 0, none⟩) n c).ownBlock = some k → k ∉ foot b sv mb := by
  intro k hk hc
  have := h.lt k hc
  simp [Value.ownBlock] at hk
  omega
theorem bw_alloc (w : World) (o : Obj) : Below w.heap.size w (w.alloc o) := (Below.refl _ _).alloc (Nat.le_refl _) _
theorem lives_dag (w : World) : Tms (w.alloc (.cells #[.int .u8 1, .int .i64 7, .int .i64 0, .int .i64 0, .int .u8 2, .int .i64 3, .int .i64 0, .int .i64 0, .int .u8 3, .int .i64 0, .int .i64 1, .int .i64 2] 64)) (.slice (some ⟨w.heap.size, 0, none⟩) 3 3) l3 := by
  refine ⟨_, 3, rfl, by simp [l3], Or.inr ⟨w.heap.size, 0, rfl, fun i t hi => ?_⟩⟩
  unfold TAt World.cell?
  simp only [heap_alloc_new]
  match i, hi with
  | 0, hi | 1, hi | 2, hi => simp [l3] at hi; subst hi; exact ⟨rfl, rfl, rfl, rfl⟩
  | i + 3, hi => simp [l3] at hi

end Go.Proofs.YtdnfonhodbhcmaaGreatDoor.Tn

/- A term that is made again; a store that is filled with terms, one behind the other. No walk is in this text. -/
namespace Go.Proofs.YtdnfonhodbhcmaaGreatDoor.Tn
open Go.RowKit Go.Maps

theorem mk_again {L : List Tm} (hG : Good L) (t : Tm) (hl : L.length < 1048575) :
    mkL (mkL L t) t = mkL L t ∧ mkN (mkL L t) t = mkN L t ∧ mkE (mkL L t) t = mkE L t ∧
    ((may L.length t = true ∧ mkE L t = 0 ∧ thr (mkL L t).length (mkN L t : Nat) = true ∧ getT (mkL L t) (mkN L t : Nat) = t ∧ t.a < (mkN L t : Nat) ∧ t.b < (mkN L t : Nat)) ∨ (mkE L t = 1 ∧ mkN L t = 0)) := by
  cases hm : may L.length t
  · have e3 : mkL L t = L := by simp [mkL, hm]
    rw [e3]
    exact ⟨e3, rfl, rfl, Or.inr ⟨by simp [mkE, hm], by simp [mkN, hm]⟩⟩
  · obtain ⟨e1, e2, e3⟩ := mk_ok hm (by omega)
    have hlen := mkL_le L t
    have hlen2 := mkL_len L t
    have hm2 := may_mono hm hlen
    have g1 := hG.made t
    have again : mkL (mkL L t) t = mkL L t := by
      generalize mkL L t = M at *
      unfold mkL
      rw [if_neg]
      rintro ⟨_, c, _⟩
      exact c e3
    have n2 : mkN (mkL L t) t = mkN L t := by
      rw [e2]; simp [mkN, hm2, e3]
    have e4 : mkE (mkL L t) t = 0 := by simp [mkE, hm2, e3]
    refine ⟨again, n2, by rw [e4, e1], Or.inl ⟨rfl, e1, ?_, ?_, ?_⟩⟩
    · rw [e2]
      have q1 := num_get e3
      have q2 := num_le (mkL L t) t
      exact thr_iff.2 (by omega)
    · rw [e2]
      have q1 := num_get e3
      have q2 := num_le (mkL L t) t
      have q3 : thr (mkL L t).length (num (mkL L t) t : Nat) = true := thr_iff.2 (by omega)
      simp only [getT, q3, if_true, tmAt, Int.toNat_natCast, List.getD, q1.1, Option.getD_some]
    · rw [e2]
      have q1 := num_get e3
      have := may_parts (g1.may _ _ q1.1)
      omega

structure Law (w wr : World) (b : Nat) (sv : Value) (mb : Nat) (L : List Tm) (n : Nat) : Prop where
  st : St wr b sv mb L
  low : ∀ x ∈ foot b sv mb, w.heap.size ≤ x
  bel : Below w.heap.size w wr
  len : L.length ≤ n
theorem Law.step {w wr w1 : World} {b : Nat} {sv sv1 : Value} {mb : Nat} {L L1 : List Tm} {n n1 : Nat} (h : Law w wr b sv mb L n) (s : SStep wr w1 b sv sv1 mb L1) (hl : L1.length ≤ n1) : Law w w1 b sv1 mb L1 n1 :=
  ⟨s.st, s.base h.bel.size h.low, Fr.toBase h.bel s.fr h.low, hl⟩
theorem Law.new {w wr w1 : World} {b : Nat} {sv : Value} {mb : Nat} {L : List Tm} {n : Nat} (h : Law w wr b sv mb L n) (hb : Below wr.heap.size wr w1) : Law w w1 b sv mb L n :=
  ⟨h.st.bw hb, h.low, bw_tr h.bel hb, h.len⟩

theorem Tms.get {w : World} {a : Option Addr} {cap : Nat} {l : List Tm} (h : Tms w (.slice a l.length cap) l) : l.length ≤ 140737488355328 ∧ ∀ i t, l[i]? = some t → ∃ g o, a = some ⟨g, o, none⟩ ∧ ∀ wr, Below w.heap.size w wr → TAt wr g (o + i * 4) t := by
  obtain ⟨a', cap', hv, hl, hc⟩ := h
  cases hv
  refine ⟨hl, fun i t hi => ?_⟩
  rcases hc with hc | ⟨g, o, rfl, hc⟩
  · rw [hc] at hi; simp at hi
  · exact ⟨g, o, rfl, fun wr hb => (hc i t hi).keep (hb.block g (hc i t hi).lt)⟩

end Go.Proofs.YtdnfonhodbhcmaaGreatDoor.Tn
