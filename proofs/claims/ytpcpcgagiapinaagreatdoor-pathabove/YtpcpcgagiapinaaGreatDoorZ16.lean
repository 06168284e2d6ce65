/- Texts joined: NTmC NTmD NTmE NTmF NTmG NTmH NTmI NTmOnce. -/
import Derived.Test.YtpcpcgagiapinaaGreatDoorNTmB
/- Contracts of untold and Dag of package term. -/
namespace Go.Proofs.YtpcpcgagiapinaaGreatDoor.Tn
open Go.RowKit Go.Maps
theorem PMap.look {w : World} {b : Nat} {o : List Nat} (h : PMap w b o) {k : Nat} (hk : k ≤ 1048576) : (Instr.lookup 177 (.map (some b)) (.int .i64 (k : Int)) false).run Tryz.prog w = .ok (.int .i64 (pos o k : Nat)) w := by
  obtain ⟨D, hD, hv⟩ := h
  obtain ⟨c, hr, hc, _⟩ := hD.lookup_int lawInt Tryz.underlying177 Tryz.underlying3 (zeroInt w) (keyOf_int_mk Tryz.underlying3 (wf_i64 (x := (k : Int)) (by omega) (by omega)))
  rw [hv k hk] at hc
  simp only [DataW.lit.injEq, Lit.int.injEq, true_and] at hc
  rw [hc]
  exact hr
theorem PMap.store {w : World} {b : Nat} {o : List Nat} (h : PMap w b o) {m : Nat} (hm : m ∉ o) (hk : m ≤ 1048576) (hl : o.length ≤ 1048576) : ∃ w', (Instr.mapUpdate 177 (.map (some b)) (.int .i64 (m : Int)) (.int .i64 ((o.length : Int) + 1))).run Tryz.prog w = .ok () w' ∧ PMap w' b (o ++ [m]) ∧ w.grownBy w' (some b) := by
  obtain ⟨D, hD, hv⟩ := h
  obtain ⟨w', hr, h1, h2⟩ := hD.update lawInt Tryz.underlying177 (by unfold maxLen; omega) (keyOf_int_mk Tryz.underlying3 (wf_i64 (x := (m : Int)) (by omega) (by omega))) (plainElem_int (a := ((o.length + 1 : Nat) : Int)) Tryz.underlying3 (wf_i64 (by omega) (by omega)))
  refine ⟨w', ?_, PMap.put hD hv hm h1, h2⟩
  have e : ((o.length + 1 : Nat) : Int) = (o.length : Int) + 1 := by omega
  rw [e] at hr
  exact hr
theorem ret_i {k : IntKind} {a b : Int} (h : a = b) : Ending.returned (.int k a) = .returned (.int k b) := by rw [h]
end Go.Proofs.YtpcpcgagiapinaaGreatDoor.Tn

/- What Dag of package term keeps in memory while it works. No walk is in this text. -/
namespace Go.Proofs.YtpcpcgagiapinaaGreatDoor.Tn
open Go.RowKit Go.Maps
def NRow (B : Nat) (w : World) (v : Value) (l : List Nat) : Prop := w.ownsRow B 3 1 v l.length (l.map fun m => .int .i64 ((m : Nat) : Int))
theorem NRow.keep {B : Nat} {w w' : World} {v : Value} {l : List Nat} (h : NRow B w v l) (hb : ∀ k, v.ownBlock = some k → w'.heap[k]? = w.heap[k]?) : NRow B w' v l := by
  refine ⟨h.1, ?_⟩
  rcases h.2 with h2 | ⟨g, cap, cur, hv, h0, hg, r⟩
  · exact Or.inl h2
  · exact Or.inr ⟨g, cap, cur, hv, h0, by rw [hb g (by rw [hv]; rfl)]; exact hg, r⟩
theorem NRow.lt {B : Nat} {w : World} {v : Value} {l : List Nat} (h : NRow B w v l) : ∀ k, v.ownBlock = some k → B ≤ k ∧ k < w.heap.size := World.ownsRow.lt h
theorem NRow.block {B : Nat} {w : World} {v : Value} {l : List Nat} {k : Nat} (h : NRow B w v l) (hk : v.ownBlock = some k) : ∃ cur, w.heap[k]? = some (.cells cur 3 (0, 0)) := by
  rcases h.2 with ⟨rfl, _⟩ | ⟨g, cap, cur, rfl, _, hg, _⟩
  · cases hk
  · simp [Value.ownBlock] at hk; subst hk; exact ⟨cur, hg⟩
theorem NRow.form {B : Nat} {w : World} {v : Value} {l : List Nat} (h : NRow B w v l) : (v = .slice none 0 0 ∧ l = []) ∨ ∃ g cap, v = .slice (some ⟨g, 0, none⟩) l.length cap ∧ B ≤ g ∧ g < w.heap.size ∧ l.length ≤ cap ∧ cap ≤ maxLen := by
  rcases h.2 with ⟨h1, h2⟩ | ⟨g, cap, cur, hv, hB, hg, h1, h2, _⟩
  · exact Or.inl ⟨h1, List.length_eq_zero_iff.1 h2⟩
  · exact Or.inr ⟨g, cap, hv, hB, lt_of_blk hg, h1, h2⟩
theorem NRow.at {B : Nat} {w : World} {v : Value} {l : List Nat} (h : NRow B w v l) {g : Nat} (hg : v.ownBlock = some g) {i m : Nat} (hi : l[i]? = some m) : w.cell? ⟨g, i, none⟩ = some (.int .i64 (m : Int)) := by
  have := World.ownsRow.cells h hg i (.int .i64 (m : Int)) (by simp [hi])
  cases i <;> simpa [Addr.add] using this
theorem NRow.pop {B : Nat} {w : World} {g cap : Nat} {l : List Nat} {m : Nat} (h : NRow B w (.slice (some ⟨g, 0, none⟩) (l.length + 1) cap) (l ++ [m])) : NRow B w (.slice (some ⟨g, 0, none⟩) l.length cap) l := by
  refine ⟨by simp, ?_⟩
  rcases h.2 with ⟨h1, _⟩ | ⟨g', cap', cur, hv, hB, hg, h1, h2, h3, h4⟩
  · cases h1
  · simp only [Value.slice.injEq, Option.some.injEq, Addr.mk.injEq, and_true] at hv
    obtain ⟨rfl, _, rfl⟩ := hv
    refine Or.inr ⟨g, cap, cur, rfl, hB, hg, by simp at h1; omega, h2, h3, ?_⟩
    have e := congrArg (List.take l.length) h4
    rw [List.take_take] at e
    simp only [List.length_append, List.length_cons, List.length_nil, Nat.mul_one, List.map_append] at e
    rw [show min l.length (l.length + (0 + 1)) = l.length by omega] at e
    rw [Nat.mul_one, e]
    simp
theorem term_ne_int : (64 : TypeId) ≠ 3 := by decide
theorem rows_apart {B B' : Nat} {w : World} {u v : Value} {l : List Tm} {k : List Nat} {x : Nat} (h : TmRow B w u l) (h' : NRow B' w v k) (hx : u.ownBlock = some x) : v.ownBlock ≠ some x := by
  intro c
  obtain ⟨_, h1⟩ := h.block hx
  obtain ⟨_, h2⟩ := h'.block c
  rw [h1] at h2
  simp only [Option.some.injEq, Obj.cells.injEq] at h2
  exact term_ne_int h2.2.1
theorem PMap.block {w : World} {b : Nat} {o : List Nat} (h : PMap w b o) : ∃ es clock, w.heap[b]? = some (.map es clock) := by
  obtain ⟨D, ⟨es, clock, hb, _⟩, _⟩ := h; exact ⟨es, clock, hb⟩
structure Dg (w wr : World) (L : List Tm) (M : Nat) (lv bv : Value) (stk o : List Nat) : Prop where
  beg : Begun L stk o
  told : Told L o
  rl : TmRow w.heap.size wr lv (outs L o)
  rb : NRow w.heap.size wr bv stk
  pm : PMap wr M o
  hM : w.heap.size ≤ M
  bel : Below w.heap.size w wr
theorem Dg.apart {w wr : World} {L : List Tm} {M : Nat} {lv bv : Value} {stk o : List Nat} (h : Dg w wr L M lv bv stk o) : lv.ownBlock ≠ some M ∧ bv.ownBlock ≠ some M ∧ ∀ x, lv.ownBlock = some x → bv.ownBlock ≠ some x := by
  obtain ⟨es, clock, hm⟩ := h.pm.block
  refine ⟨fun c => ?_, fun c => ?_, fun x hx => rows_apart h.rl h.rb hx⟩
  · obtain ⟨_, h1⟩ := h.rl.block c; rw [hm] at h1; simp at h1
  · obtain ⟨_, h1⟩ := h.rb.block c; rw [hm] at h1; simp at h1
theorem Dg.new {w wr w' : World} {L : List Tm} {M : Nat} {lv bv : Value} {stk o : List Nat} (h : Dg w wr L M lv bv stk o) (hb : Below wr.heap.size wr w') : Dg w w' L M lv bv stk o :=
  ⟨h.beg, h.told, h.rl.bw hb, h.rb.keep (fun k hk => hb.block k (h.rb.lt k hk).2), h.pm.bw hb, h.hM, bw_tr h.bel hb⟩
theorem Dg.push {w w1 w2 : World} {L : List Tm} {M : Nat} {lv bv v' : Value} {stk o : List Nat} {m p : Nat} {ob : Obj} (h : Dg w w1 L M lv bv (stk ++ [m]) o) (hown : w2.ownsRow w.heap.size 3 1 v' ((stk ++ [m]).length + 1) ((stk ++ [m]).map (fun m => .int .i64 ((m : Nat) : Int)) ++ [.int .i64 (p : Int)]))
    (hg : (w1.alloc ob).grownBy w2 bv.ownBlock) (h1 : 1 ≤ p) (h2 : p < m) (ho : p ∉ o) : Dg w w2 L M lv v' (stk ++ [m] ++ [p]) o := by
  obtain ⟨a1, a2, a3⟩ := h.apart
  have hs := h.bel.size
  have old : ∀ k, k < w1.heap.size → bv.ownBlock ≠ some k → w2.heap[k]? = w1.heap[k]? := fun k hk hn => by
    rw [hg.block k (by simp; omega) (fun c => hn c.symm), Below.heap_alloc _ _ _ hk]
  refine ⟨h.beg.push h1 h2 ho, h.told, h.rl.keep (fun k hk => old k (h.rl.lt k hk).2 (a3 k hk)), ?_, h.pm.keep (old M h.pm.lt a2), h.hM, ?_⟩
  · unfold NRow; simpa using hown
  · exact (h.bel.alloc hs ob).grown hg (by simp; omega) (fun k hk => (h.rb.lt k hk).1)
end Go.Proofs.YtpcpcgagiapinaaGreatDoor.Tn

/- The contract of Dag of package term. -/
namespace Go.Proofs.YtpcpcgagiapinaaGreatDoor.Tn
open Go.RowKit Go.Maps
def lenOf : Value → Nat
  | .slice _ n _ => n
  | _ => 0
theorem Dg.start {w : World} {L : List Tm} {n : Nat} (h1 : 1 ≤ n) (h2 : n ≤ L.length) : Dg w ((w.alloc (.map #[] 0)).alloc (.cells #[.int .i64 (n : Int)] 3)) L w.heap.size (.slice none 0 0) (.slice (some ⟨w.heap.size + 1, 0, none⟩) 1 1) [n] [] := by
  have e : (w.alloc (.map #[] 0)).heap.size = w.heap.size + 1 := by simp
  refine ⟨⟨by simp; omega, by simp⟩, told_nil L, TmRow.nil _ _, ?_, ?_, Nat.le_refl _, ?_⟩
  · refine ⟨rfl, Or.inr ⟨w.heap.size + 1, 1, #[.int .i64 (n : Int)], rfl, by omega, ?_, Nat.le_refl _, by unfold maxLen; omega, rfl, rfl⟩⟩
    rw [← e]; exact heap_alloc_new _ _
  · exact (PMap.made w).bw ((Below.refl _ _).alloc (Nat.le_refl _) _)
  · exact ((Below.refl _ _).alloc (Nat.le_refl _) _).alloc (by simp) _
theorem slice_upto (w : World) (g n cap i : Nat) (hi : i ≤ n) (hc : n ≤ cap) : (Instr.slice 27 (.slice (some ⟨g, 0, none⟩) n cap) none (some (.int .i64 (i : Int))) none).run Tryz.prog w = .ok (.slice (some ⟨g, 0, none⟩) i cap) w := by
  have ht : Tryz.prog.underlying 27 = some (.slice (Tryz.prog.elem 27)) := by kernel_rfl
  have he : Tryz.prog.elem 27 = 3 := by kernel_rfl
  have hs : (Go.sizeOf 3).run Tryz.prog w = .ok 1 w := by kernel_rfl
  rw [run_slice_h (P := Tryz.prog) w 27 (some ⟨g, 0, none⟩) n cap ht .i64 i (by omega) (by omega), he, hs]
  simp [Result.andThen, sliced, Addr.add]
theorem own_form {B : Nat} {w : World} {e : TypeId} {c : Nat} {v : Value} {n : Nat} {xs : List Value} (h : w.ownsRow B e c v (n + 1) xs) : ∃ g cap, v = .slice (some ⟨g, 0, none⟩) (n + 1) cap := by
  rcases h.2 with ⟨_, h⟩ | ⟨g, cap, _, h, _⟩
  · omega
  · exact ⟨g, cap, h⟩
end Go.Proofs.YtpcpcgagiapinaaGreatDoor.Tn

/- Contracts of New, List and Data of package term. -/
namespace Go.Proofs.YtpcpcgagiapinaaGreatDoor.Tn
open Go.RowKit Go.Maps
set_option maxRecDepth 100000 in
set_option maxHeartbeats 400000 in
theorem new_any (w : World) :
    Calls Tryz.prog 30 #[] w fun e w' => ∃ b mb, e = .returned (.pointer (some ⟨b, 0, none⟩)) ∧ St w' b (.slice none 0 0) mb [] ∧ (∀ x ∈ foot b (.slice none 0 0) mb, w.heap.size ≤ x) ∧ Below w.heap.size w w' := by
  have hmm := @run_makeMap Tryz.prog
  go_enter Tryz.func30, Tryz.ntmps30
  go_wp2
  go_ret
  refine ⟨w.heap.size + 1, w.heap.size, rfl, ⟨?_, TmRow.nil _ _, ?_, good_nil, by simp⟩, ?_, ?_⟩
  · have e : (w.alloc (.map #[] 0)).heap.size = w.heap.size + 1 := by simp
    rw [← e]; exact heap_alloc_new _ _
  · exact (TMap.made w).keep (Below.heap_alloc _ _ _ (by simp))
  · intro x hx
    rcases mem_foot.1 hx with rfl | rfl | hx
    · omega
    · omega
    · cases hx
  · exact ((Below.refl _ _).alloc (Nat.le_refl _) _).alloc (by simp) _
def NIs (w : World) (v : Value) (l : List Int) : Prop :=
  ∃ a cap, v = .slice a l.length cap ∧ l.length ≤ 140737488355328 ∧ (∀ z ∈ l, -9223372036854775808 ≤ z ∧ z ≤ 9223372036854775807) ∧ (l = [] ∨ ∃ g o, a = some ⟨g, o, none⟩ ∧ ∀ i z, l[i]? = some z → w.cell? ⟨g, o + i, none⟩ = some (.int .i64 z))
theorem NIs.fr {S : List Nat} {w w' : World} {v : Value} {l : List Int} (h : NIs w v l) (hb : Fr S w w') (hS : ∀ k, v.ownBlock = some k → k ∉ S) : NIs w' v l := by
  obtain ⟨a, cap, rfl, hl, hz, hc⟩ := h
  refine ⟨a, cap, rfl, hl, hz, ?_⟩
  rcases hc with hc | ⟨g, o, rfl, hc⟩
  · exact Or.inl hc
  · refine Or.inr ⟨g, o, rfl, fun i z ht => ?_⟩
    have := hc i z ht
    rw [World.cell?_of_block (w := w) (hb.block g (lt_of_cell this) (hS g rfl))]
    exact this
theorem NIs.bw {w w' : World} {v : Value} {l : List Int} (h : NIs w v l) (hb : Below w.heap.size w w') : NIs w' v l := h.fr (Fr.ofBelow hb) (by simp)
def lsF : List Tm → List Int → Int → List Tm × Int × Int
  | L, [], n => (L, n, 0)
  | L, a :: r, n => if mkE L ⟨3, 0, a, n⟩ = 0 then lsF (mkL L ⟨3, 0, a, n⟩) r (mkN L ⟨3, 0, a, n⟩ : Nat) else (mkL L ⟨3, 0, a, n⟩, 0, mkE L ⟨3, 0, a, n⟩)
def ls (L : List Tm) (l : List Int) : List Tm × Int × Int :=
  if l.all (thr L.length) = true then (match l.reverse with | [] => (L, 0, 0) | n :: r => lsF L r n) else (L, 0, 1)
theorem mkN_bd {L : List Tm} (h : Good L) (t : Tm) : (mkN L t : Int) ≤ 1048576 := by
  have := h.len
  unfold mkN
  split
  · split
    · have := num_le L t; omega
    · split <;> omega
  · omega
end Go.Proofs.YtpcpcgagiapinaaGreatDoor.Tn

/- The contract of Data of package term. -/
namespace Go.Proofs.YtpcpcgagiapinaaGreatDoor.Tn
open Go.RowKit Go.Maps
theorem NRow.nil (B : Nat) (w : World) : NRow B w (.slice none 0 0) [] := World.ownsRow_nil _ _ _ _
theorem NRow.foot {B : Nat} {w : World} {v : Value} {l : List Nat} {b : Nat} {sv : Value} {mb : Nat} {L : List Tm} (h : NRow B w v l) (hs : St w b sv mb L) : ∀ k, v.ownBlock = some k → k ∉ foot b sv mb := by
  intro k hk c
  obtain ⟨cur, hc⟩ := h.block hk
  rcases mem_foot.1 c with rfl | rfl | c
  · have := hs.blk; rw [hc] at this; simp at this
  · obtain ⟨es, clock, hm⟩ := hs.map.block; rw [hc] at hm; simp at hm
  · exact rows_apart hs.row h c hk
theorem NRow.nis {B : Nat} {w : World} {v : Value} {l : List Nat} (h : NRow B w v l) (hl : l.length ≤ 140737488355328) (hz : ∀ m ∈ l, m ≤ 1048576) : NIs w v (l.map fun (m : Nat) => (m : Int)) := by
  rcases h.form with ⟨rfl, rfl⟩ | ⟨g, cap, hv, _⟩
  · exact ⟨none, 0, rfl, by simp, by simp, Or.inl rfl⟩
  · refine ⟨_, cap, by rw [List.length_map]; exact hv, by simpa using hl, fun z hz' => ?_, Or.inr ⟨g, 0, rfl, fun i z hi => ?_⟩⟩
    · obtain ⟨m, hm, rfl⟩ := List.mem_map.1 hz'
      have := hz m hm; omega
    · rw [List.getElem?_map] at hi
      cases hm : l[i]? with
      | none => rw [hm] at hi; cases hi
      | some m =>
        rw [hm] at hi
        simp only [Option.map_some, Option.some.injEq] at hi
        subst hi
        rw [Nat.zero_add]
        exact h.at (by rw [hv]; rfl) hm
theorem NRow.grown {w w4 : World} {v' : Value} {acc : List Nat} {n : Nat} (h : w4.ownsRow w.heap.size 3 1 v' (acc.length + 1) (acc.map (fun m => .int .i64 ((m : Nat) : Int)) ++ [.int .i64 (n : Int)])) : NRow w.heap.size w4 v' (acc ++ [n]) := by
  unfold NRow; simpa using h
end Go.Proofs.YtpcpcgagiapinaaGreatDoor.Tn

/- Contracts of SameTerms and of lives, the end of every law of layer 3. -/
namespace Go.Proofs.YtpcpcgagiapinaaGreatDoor.Tn
open Go.RowKit Go.Maps
theorem tm_ne {t u : Tm} (h : t ≠ u) : t.kd ≠ u.kd ∨ (t.kd = u.kd ∧ t.n ≠ u.n) ∨ (t.kd = u.kd ∧ t.n = u.n ∧ t.a ≠ u.a) ∨ (t.kd = u.kd ∧ t.n = u.n ∧ t.a = u.a ∧ t.b ≠ u.b) := by
  obtain ⟨k, n, a, b⟩ := t
  obtain ⟨k', n', a', b'⟩ := u
  simp only [ne_eq, Tm.mk.injEq, not_and] at h ⊢
  by_cases h1 : k = k'
  · by_cases h2 : n = n'
    · by_cases h3 : a = a'
      · exact Or.inr (Or.inr (Or.inr ⟨h1, h2, h3, h h1 h2 h3⟩))
      · exact Or.inr (Or.inr (Or.inl ⟨h1, h2, h3⟩))
    · exact Or.inr (Or.inl ⟨h1, h2⟩)
  · exact Or.inl h1
end Go.Proofs.YtpcpcgagiapinaaGreatDoor.Tn

/- The contract of lives, the end of every law of layer 3. -/
namespace Go.Proofs.YtpcpcgagiapinaaGreatDoor.Tn
open Go.RowKit Go.Maps
def l1 : List Tm := [⟨1, 7, 0, 0⟩]
def l2 : List Tm := [⟨1, 7, 0, 0⟩, ⟨2, 3, 0, 0⟩]
def l3 : List Tm := [⟨1, 7, 0, 0⟩, ⟨2, 3, 0, 0⟩, ⟨3, 0, 1, 2⟩]
theorem bw_alloc (w : World) (o : Obj) : Below w.heap.size w (w.alloc o) := (Below.refl _ _).alloc (Nat.le_refl _) _
end Go.Proofs.YtpcpcgagiapinaaGreatDoor.Tn

/- A term that is made again; a store that is filled with terms, one behind the other. No walk is in this text. -/
namespace Go.Proofs.YtpcpcgagiapinaaGreatDoor.Tn
open Go.RowKit Go.Maps
structure Law (w wr : World) (b : Nat) (sv : Value) (mb : Nat) (L : List Tm) (n : Nat) : Prop where
  st : St wr b sv mb L
  low : ∀ x ∈ foot b sv mb, w.heap.size ≤ x
  bel : Below w.heap.size w wr
  len : L.length ≤ n
theorem Law.step {w wr w1 : World} {b : Nat} {sv sv1 : Value} {mb : Nat} {L L1 : List Tm} {n n1 : Nat} (h : Law w wr b sv mb L n) (s : SStep wr w1 b sv sv1 mb L1) (hl : L1.length ≤ n1) : Law w w1 b sv1 mb L1 n1 :=
  ⟨s.st, s.base h.bel.size h.low, Fr.toBase h.bel s.fr h.low, hl⟩
theorem Law.new {w wr w1 : World} {b : Nat} {sv : Value} {mb : Nat} {L : List Tm} {n : Nat} (h : Law w wr b sv mb L n) (hb : Below wr.heap.size wr w1) : Law w w1 b sv mb L n :=
  ⟨h.st.bw hb, h.low, bw_tr h.bel hb, h.len⟩
theorem Tms.get {w : World} {a : Option Addr} {cap : Nat} {l : List Tm} (h : Tms w (.slice a l.length cap) l) : l.length ≤ 140737488355328 ∧ ∀ i t, l[i]? = some t → ∃ g o, a = some ⟨g, o, none⟩ ∧ ∀ wr, Below w.heap.size w wr → TAt wr g (o + i * 4) t := by
  obtain ⟨a', cap', hv, hl, hc⟩ := h
  cases hv
  refine ⟨hl, fun i t hi => ?_⟩
  rcases hc with hc | ⟨g, o, rfl, hc⟩
  · rw [hc] at hi; simp at hi
  · exact ⟨g, o, rfl, fun wr hb => (hc i t hi).keep (hb.block g (hc i t hi).lt)⟩
end Go.Proofs.YtpcpcgagiapinaaGreatDoor.Tn
