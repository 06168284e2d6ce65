/- A Book of phratrylaw01 in memory, and how a list of numbers is kept in it. -/
import Derived.Test.YtocopmbdjopljaaGreatDoorBookNil
import Derived.Test.YtocopmbdjopljaaGreatDoorBaR
import Derived.Deep.RegionLaw
import Derived.Deep.RegionWith
import Derived.Deep.CutRange
namespace Go.Proofs.YtocopmbdjopljaaGreatDoor
open Go.RowKit

theorem step_append_own {P : Program} {ops : Array Oper} {o : Oper} {a : Act} {w : World} {K : Act → World → Prop} {Q : Exit → Act → World → Prop} {E : Prop}
    (hg : o.guard = none) (s x : Operand) (t : TypeId) (hop : o.op = Op.call { callee := Callee.builtin Builtin.append, args := #[s, x], argTypes := #[t, t] })
    (base : Nat) (e : TypeId) (i : TypeInfo) (z : Value) (size bytes : Nat) (h1 : P.underlying t = some (.slice e)) (h2 : P.info? e = some i) (h3 : i.zero = some z) (h4 : i.size = size) (h5 : i.bytes = bytes) (h6 : z.cells.size = size) (h7 : 0 < size)
    (v : Value) (n : Nat) (xs : List Value) (hs : a.eval s = v) (hown : w.ownsRow base e size v n xs)
    (ad : Addr) (m c : Nat) (news : List Value) (hx : a.eval x = .slice (some ad) m c) (hn : news.length = m * size) (hc : ∀ j u, news[j]? = some u → w.cell? (ad.add j) = some u) (h1c : ∀ u ∈ news, u.oneCell' = true)
    (b1 : n + m ≤ maxLen) (b2 : (n + m) * bytes ≤ 140737488355328) (hbase : base ≤ w.heap.size)
    (hK : ∀ v' w', w'.ownsRow base e size v' (n + m) (xs ++ news) → w.grownBy w' v.ownBlock → (v'.ownBlock = v.ownBlock ∨ v'.ownBlock = some w.heap.size) → K (a.put o.dst v') w') :
    if Region.wanted o (yielded ops a.tmps) = true then Oper.wp P o a w K Q else E := by
  have hw : Region.wanted o (yielded ops a.tmps) = true := by simp [Region.wanted, hg]
  rw [if_pos hw]
  obtain ⟨v', w', hr, r2, r3, _, r5⟩ := run_append_own_at (P := P) w base t o.type e i z size bytes h1 h2 h3 h4 h5 h6 h7 v n xs hown ad m c news hn hc h1c b1 b2 hbase
  unfold Oper.wp
  simp [execOp, hop, resolve, invoke, builtin, hs, hx, hr, Result.andThen]
  exact hK v' w' r2 r3 r5

def nilS : Value := .slice none 0 0
def bookCells (c : Int) (lv : Value) : Array Value := #[.int .i64 c, nilS, lv, nilS, nilS, nilS, nilS, nilS, nilS, nilS, nilS, nilS, nilS, nilS, nilS, nilS, nilS, nilS, nilS, nilS, nilS, nilS, nilS, nilS, nilS, nilS, nilS, nilS, nilS, nilS, nilS, nilS, nilS, nilS, nilS]
/-- The lists that are held, each with its number, from i on. -/
def hel : Nat → List Value → List Value
  | _, [] => []
  | i, v :: vs => v :: .int .i64 i :: hel (i + 1) vs
theorem hel_length (i : Nat) (vs : List Value) : (hel i vs).length = vs.length * 2 := by
  induction vs generalizing i with
  | nil => rfl
  | cons v vs ih => simp only [hel, List.length_cons, ih]; omega
theorem hel_snoc (i : Nat) (vs : List Value) (v : Value) : hel i (vs ++ [v]) = hel i vs ++ [v, .int .i64 ((i + vs.length : Nat) : Int)] := by
  induction vs generalizing i with
  | nil => simp [hel]
  | cons u vs ih =>
    simp only [List.cons_append, hel, ih, List.length_cons, List.cons_append]
    have : i + 1 + vs.length = i + (vs.length + 1) := by omega
    rw [this]

/-- A Book at the block b that holds these lists. -/
structure Bk (B : Nat) (w : World) (b : Nat) (lv : Value) (vs : List Value) : Prop where
  blk : w.heap[b]? = some (.cells (bookCells vs.length lv) 70 (0, 0))
  own : w.ownsRow B 128 2 lv vs.length (hel 0 vs)

theorem Bk.cell {B : Nat} {w : World} {b : Nat} {lv : Value} {vs : List Value} (h : Bk B w b lv vs) : w.cell? ⟨b, 0, none⟩ = some (.int .i64 (vs.length : Int)) ∧ w.cell? ⟨b, 1, none⟩ = some (.slice none 0 0) ∧ w.cell? ⟨b, 2, none⟩ = some lv ∧ (∀ k, 3 ≤ k → k < 35 → w.cell? ⟨b, k, none⟩ = some (.slice none 0 0)) ∧ ∀ k, w.frozen? ⟨b, k, none⟩ = false := by
  refine ⟨by simp [World.cell?, h.blk, bookCells], by simp [World.cell?, h.blk, bookCells, nilS], by simp [World.cell?, h.blk, bookCells], fun k h1 h2 => ?_, fun k => by simp [World.frozen?, h.blk]⟩
  have : (bookCells vs.length lv)[k]? = some nilS := by
    match k, h1, h2 with
    | 3, _, _ | 4, _, _ | 5, _, _ | 6, _, _ | 7, _, _ | 8, _, _ | 9, _, _ | 10, _, _ | 11, _, _ | 12, _, _ | 13, _, _ | 14, _, _ | 15, _, _ | 16, _, _ | 17, _, _ | 18, _, _ | 19, _, _ | 20, _, _ | 21, _, _ | 22, _, _ | 23, _, _ | 24, _, _ | 25, _, _ | 26, _, _ | 27, _, _ | 28, _, _ | 29, _, _ | 30, _, _ | 31, _, _ | 32, _, _ | 33, _, _ | 34, _, _ => rfl
    | k + 35, _, h => exact absurd h (by omega)
  simp only [World.cell?, h.blk]
  simpa [nilS] using this

theorem Tryz.infoHeld : (Tryz.prog.info? 128).map (fun i => (i.zero, i.size, i.bytes)) = some (some (.agg #[.slice none 0 0, .int .i64 0]), 2, 32) := by kernel_rfl

/-- The store of the new held list, and of the count, behind an append. -/
theorem Bk.kept {B : Nat} {w w0 w1 : World} {b : Nat} {lv lv' l : Value} {vs : List Value} (h : Bk B w b lv vs) (h0 : Fr [] w w0) (hown : w1.ownsRow B 128 2 lv' (vs.length + 1) (hel 0 vs ++ [l, .int .i64 (vs.length : Int)])) (hg : w0.grownBy w1 lv.ownBlock)
    (hat : lv'.ownBlock = lv.ownBlock ∨ lv'.ownBlock = some w0.heap.size) :
    Bk B ((w1.setCell ⟨b, 2, none⟩ lv').setCell ⟨b, 0, none⟩ (.int .i64 ((vs.length : Int) + 1))) b lv' (vs ++ [l]) ∧ Fr (b :: lv.ownBlock.toList) w ((w1.setCell ⟨b, 2, none⟩ lv').setCell ⟨b, 0, none⟩ (.int .i64 ((vs.length : Int) + 1))) ∧
    w1.cell? ⟨b, 2, none⟩ = some lv ∧ w1.frozen? ⟨b, 2, none⟩ = false ∧ w1.cell? ⟨b, 0, none⟩ = some (.int .i64 (vs.length : Int)) ∧ w1.frozen? ⟨b, 0, none⟩ = false ∧ (∀ k, lv'.ownBlock = some k → lv.ownBlock = some k ∨ w.heap.size ≤ k) := by
  have hbw : b < w.heap.size := by
    rcases Nat.lt_or_ge b w.heap.size with h1 | h1
    · exact h1
    · have := h.blk; rw [Array.getElem?_eq_none h1] at this; cases this
  have hb0 : w0.heap[b]? = some (.cells (bookCells vs.length lv) 70 (0, 0)) := by rw [h0.block b hbw (by simp)]; exact h.blk
  have hne : lv.ownBlock ≠ some b := by
    intro c
    rcases h.own.2 with ⟨hv, _⟩ | ⟨g, cap, cur, hv, _, hg, _⟩
    · rw [hv] at c; cases c
    · rw [hv] at c; simp [Value.ownBlock] at c; subst c; rw [h.blk] at hg; simp at hg
  have hb1 : w1.heap[b]? = some (.cells (bookCells vs.length lv) 70 (0, 0)) := by
    rw [hg.block b (Nat.lt_of_lt_of_le hbw h0.size) (fun c => hne c.symm)]; exact hb0
  have hne' : lv'.ownBlock ≠ some b := by
    rcases hat with c | c
    · rw [c]; exact hne
    · rw [c]; intro e; have := h0.size; simp at e; omega
  refine ⟨⟨?_, ?_⟩, ?_, by simp [World.cell?, hb1, bookCells], by simp [World.frozen?, hb1], by simp [World.cell?, hb1, bookCells], by simp [World.frozen?, hb1], fun k hk => ?_⟩
  · simp [World.setCell, Array.getElem?_modify, hb1, bookCells]
  · have e : hel 0 (vs ++ [l]) = hel 0 vs ++ [l, .int .i64 (vs.length : Int)] := by rw [hel_snoc]; simp
    rw [e, List.length_append]
    refine ⟨hown.1, ?_⟩
    rcases hown.2 with h2 | ⟨g, cap, cur, hv, q0, hg2, r⟩
    · exact Or.inl h2
    · refine Or.inr ⟨g, cap, cur, hv, q0, ?_, r⟩
      have hgb : g ≠ b := by intro c; rw [hv] at hne'; simp [Value.ownBlock, c] at hne'
      rw [Below.heap_setCell _ _ _ _ hgb, Below.heap_setCell _ _ _ _ hgb]; exact hg2
  · have hF : Fr (b :: lv.ownBlock.toList) w w1 := h0.trans (Fr.ofGrown hg) (fun _ _ c => by cases c) (fun x _ c => by simp at c ⊢; exact Or.inr c)
    exact (hF.setCell (Or.inr (by simp)) _).setCell (Or.inr (by simp)) _
  · rcases hat with c | c
    · left; rw [← c]; exact hk
    · right; rw [c] at hk; simp at hk; have := h0.size; omega

theorem cells_new2 (w : World) (x y : Value) (t : TypeId) : ∀ j u, [x, y][j]? = some u → (w.alloc (.cells #[x, y] t)).cell? ((⟨w.heap.size, 0, none⟩ : Addr).add j) = some u := by
  intro j u hj
  match j, hj with
  | 0, hj =>
    simp at hj; subst hj
    show (w.alloc (.cells #[x, y] t)).cell? ⟨w.heap.size, 0, none⟩ = some x
    unfold World.cell?; rw [heap_alloc_new]; rfl
  | 1, hj =>
    simp at hj; subst hj
    show (w.alloc (.cells #[x, y] t)).cell? ⟨w.heap.size, 1, none⟩ = some y
    unfold World.cell?; rw [heap_alloc_new]; rfl
  | j + 2, hj => simp at hj
theorem held_form {B : Nat} {w : World} {e : TypeId} {v : Value} {n : Nat} {xs : List Value} (h : w.ownsRow B e 2 v (n + 1) xs) : ∃ g cap, v = .slice (some ⟨g, 0, none⟩) (n + 1) cap := by
  rcases h.2 with ⟨_, h⟩ | ⟨g, cap, _, h, _⟩
  · omega
  · exact ⟨g, cap, h⟩

set_option maxRecDepth 100000 in
set_option maxHeartbeats 4000000 in
theorem keep_any (B b : Nat) (lv : Value) (vs : List Value) (p : Option Addr) (n cap : Nat) (w : World) (h : Bk B w b lv vs) (hB : B ≤ w.heap.size) (hl : vs.length ≤ 100) :
    Calls Tryz.prog 54 #[.pointer (some ⟨b, 0, none⟩), .slice p n cap] w fun e w' => e = .returned (.tuple #[]) ∧ ∃ lv', Bk B w' b lv' (vs ++ [.slice p n cap]) ∧ Fr (b :: lv.ownBlock.toList) w w' ∧ (∀ k, lv'.ownBlock = some k → lv.ownBlock = some k ∨ w.heap.size ≤ k) := by
  obtain ⟨i0, hi, hz0, hz1, hz2⟩ := info_parts Tryz.infoHeld
  obtain ⟨c0, c1, c2, _, f0⟩ := h.cell
  have fz := f0 2
  go_enter Tryz.func54, Tryz.ntmps54
  have hmx : vs.length + 1 ≤ maxLen := by unfold maxLen; omega
  have hby : (vs.length + 1) * 32 ≤ 140737488355328 := by omega
  have hone : ∀ u ∈ [Value.slice p n cap, .int .i64 (vs.length : Int)], u.oneCell' = true := by
    intro u hu
    rcases List.mem_cons.1 hu with rfl | hu
    · rfl
    · rcases List.mem_cons.1 hu with rfl | hu
      · rfl
      · cases hu
  have HM := hide (And.intro hmx (And.intro hby (And.intro hone h)))
  have h0 : Fr [] w (w.drew.alloc (.cells #[.slice p n cap, .int .i64 (vs.length : Int)] 128)) := ((Fr.refl [] w).drew).alloc _
  have HF := hide h0
  have hlen1 : wrap64 ((vs.length : Int) + 1) = (vs.length : Int) + 1 := by unfold wrap64; omega
  have hbw : b < w.heap.size := by
    rcases Nat.lt_or_ge b w.heap.size with h1 | h1
    · exact h1
    · have := h.blk; rw [Array.getElem?_eq_none h1] at this; cases this
  have c2a : (w.alloc (.cells #[.slice p n cap, .int .i64 (vs.length : Int)] 128)).cell? ⟨b, 2, none⟩ = some lv := by
    rw [World.cell?_of_block (w := w) (Below.heap_alloc _ _ _ hbw)]; exact c2
  clear hmx hby hone h0 h hbw
  go_wp2_with fail
  go_region_law (refine step_append_own rfl (.tmp 8) (.tmp 15) 36 rfl B 128 i0 (.agg #[.slice none 0 0, .int .i64 0]) 2 32 Tryz.underlying36 hi hz0 hz1 hz2 rfl (by decide) lv vs.length (hel 0 vs) (by simp [Act.eval]) ((unhide HM).2.2.2.own.drew.alloc _) ⟨w.heap.size, 0, none⟩ 1 1 [.slice p n cap, .int .i64 (vs.length : Int)] (by simp [Act.eval]) rfl (cells_new2 w.drew _ _ _) (unhide HM).2.2.1 (unhide HM).1 (unhide HM).2.1 (by simp; omega) ?_; intro v' w1 hown' hgrow hat; obtain ⟨k1, k2, k3, k4, k5, k7, k6⟩ := (unhide HM).2.2.2.kept (unhide HF) hown' hgrow hat; obtain ⟨g, cp, rfl⟩ := held_form hown')
  all_goals
    go_wp2_with fail
  all_goals
    go_end0
    exact ⟨rfl, _, k1, k2, k6⟩

end Go.Proofs.YtocopmbdjopljaaGreatDoor
