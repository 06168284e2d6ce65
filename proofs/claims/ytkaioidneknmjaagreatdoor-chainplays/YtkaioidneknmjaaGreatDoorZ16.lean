/- Texts joined: TdA TdB TdC TdD TdE. -/
import Derived.Test.YtkaioidneknmjaaGreatDoorTdNil
import Derived.Test.YtkaioidneknmjaaGreatDoorZ07
import Derived.Deep.RegionLaw
import Derived.Deep.RegionWith
import Derived.Deep.CutRange
/- A Book of phratrylaw01 in memory, and how a list of numbers is kept in it. -/
namespace Go.Proofs.YtkaioidneknmjaaGreatDoor.Tn.Td
open Go.RowKit

theorem step_append_own {P : Program} {ops : Array Oper} {o : Oper} {a : Act} {w : World} {K : Act → World → Prop} {Q : Exit → Act → World → Prop} {E : Prop}
    (hg : o.guard = none) (s x : Operand) (t : TypeId) (hop : o.op = Op.call { callee := Callee.builtin Builtin.append, args := #[s, x], argTypes := #[t, t] })
    (base : Nat) (e : TypeId) (i : TypeInfo) (z : Value) (size bytes : Nat) (h1 : P.underlying t = some (.slice e)) (h2 : P.info? e = some i) (h3 : i.zero = some z) (h4 : i.size = size) (h5 : i.bytes = bytes) (h6 : z.cells.size = size) (h7 : 0 < size)
    (v : Value) (n : Nat) (xs : List Value) (hs : a.eval s = v) (hown : w.ownsRow base e size v n xs)
    (ad : Addr) (m c : Nat) (news : List Value) (hx : a.eval x = .slice (some ad) m c) (hn : news.length = m * size) (hc : ∀ j u, news[j]? = some u → w.cell? (ad.add j) = some u) (h1c : ∀ u ∈ news, u.oneCell' = true)
    (b1 : n + m ≤ maxLen) (b2 : (n + m) * bytes ≤ 140737488355328) (hbase : base ≤ w.heap.size)
    (hK : ∀ v' w', w'.ownsRow base e size v' (n + m) (xs ++ news) → w.grownBy w' v.ownBlock → (v'.ownBlock = v.ownBlock ∨ v'.ownBlock = some w.heap.size) → K (a.put o.dst v') w') :
    if Region.wanted o (yielded ops a.tmps) = true then Oper.wp P o a w K Q else E := by
  have hw : Region.wanted o (yielded ops a.tmps) = true := by simp [Region.wanted, hg]
  rw [if_pos hw]
  obtain ⟨v', w', hr, r2, r3, _, r5⟩ := run_append_own_at (P := P) w base t o.type e i z size bytes h1 h2 h3 h4 h5 h6 h7 v n xs hown ad m c news hn hc h1c b1 b2 hbase
  unfold Oper.wp
  simp [execOp, hop, resolve, invoke, builtin, hs, hx, hr, Result.andThen]
  exact hK v' w' r2 r3 r5

def nilS : Value := .slice none 0 0
def bookCells (c : Int) (lv : Value) : Array Value := #[.int .i64 c, nilS, lv, nilS, nilS, nilS, nilS, nilS, nilS, nilS, nilS, nilS, nilS, nilS, nilS, nilS, nilS, nilS, nilS, nilS, nilS, nilS, nilS, nilS, nilS, nilS, nilS, nilS, nilS, nilS, nilS, nilS, nilS, nilS, nilS]
/-- The lists that are held, each with its number, from i on. -/
def hel : Nat → List Value → List Value
  | _, [] => []
  | i, v :: vs => v :: .int .i64 i :: hel (i + 1) vs
theorem hel_length (i : Nat) (vs : List Value) : (hel i vs).length = vs.length * 2 := by
  induction vs generalizing i with
  | nil => rfl
  | cons v vs ih => simp only [hel, List.length_cons, ih]; omega
theorem hel_snoc (i : Nat) (vs : List Value) (v : Value) : hel i (vs ++ [v]) = hel i vs ++ [v, .int .i64 ((i + vs.length : Nat) : Int)] := by
  induction vs generalizing i with
  | nil => simp [hel]
  | cons u vs ih =>
    simp only [List.cons_append, hel, ih, List.length_cons, List.cons_append]
    have : i + 1 + vs.length = i + (vs.length + 1) := by omega
    rw [this]

/-- A Book at the block b that holds these lists. -/
structure Bk (B : Nat) (w : World) (b : Nat) (lv : Value) (vs : List Value) : Prop where
  blk : w.heap[b]? = some (.cells (bookCells vs.length lv) 81 (0, 0))
  own : w.ownsRow B 136 2 lv vs.length (hel 0 vs)

theorem Bk.cell {B : Nat} {w : World} {b : Nat} {lv : Value} {vs : List Value} (h : Bk B w b lv vs) : w.cell? ⟨b, 0, none⟩ = some (.int .i64 (vs.length : Int)) ∧ w.cell? ⟨b, 1, none⟩ = some (.slice none 0 0) ∧ w.cell? ⟨b, 2, none⟩ = some lv ∧ (∀ k, 3 ≤ k → k < 35 → w.cell? ⟨b, k, none⟩ = some (.slice none 0 0)) ∧ ∀ k, w.frozen? ⟨b, k, none⟩ = false := by
  refine ⟨by simp [World.cell?, h.blk, bookCells], by simp [World.cell?, h.blk, bookCells, nilS], by simp [World.cell?, h.blk, bookCells], fun k h1 h2 => ?_, fun k => by simp [World.frozen?, h.blk]⟩
  have : (bookCells vs.length lv)[k]? = some nilS := by
    match k, h1, h2 with
    | 3, _, _ | 4, _, _ | 5, _, _ | 6, _, _ | 7, _, _ | 8, _, _ | 9, _, _ | 10, _, _ | 11, _, _ | 12, _, _ | 13, _, _ | 14, _, _ | 15, _, _ | 16, _, _ | 17, _, _ | 18, _, _ | 19, _, _ | 20, _, _ | 21, _, _ | 22, _, _ | 23, _, _ | 24, _, _ | 25, _, _ | 26, _, _ | 27, _, _ | 28, _, _ | 29, _, _ | 30, _, _ | 31, _, _ | 32, _, _ | 33, _, _ | 34, _, _ => rfl
    | k + 35, _, h => exact absurd h (by omega)
  simp only [World.cell?, h.blk]
  simpa [nilS] using this

theorem Tryz.infoHeld : (Tryz.prog.info? 136).map (fun i => (i.zero, i.size, i.bytes)) = some (some (.agg #[.slice none 0 0, .int .i64 0]), 2, 32) := by kernel_rfl

/-- The store of the new held list, and of the count, behind an append. -/
theorem Bk.kept {B : Nat} {w w0 w1 : World} {b : Nat} {lv lv' l : Value} {vs : List Value} (h : Bk B w b lv vs) (h0 : Fr [] w w0) (hown : w1.ownsRow B 136 2 lv' (vs.length + 1) (hel 0 vs ++ [l, .int .i64 (vs.length : Int)])) (hg : w0.grownBy w1 lv.ownBlock)
    (hat : lv'.ownBlock = lv.ownBlock ∨ lv'.ownBlock = some w0.heap.size) :
    Bk B ((w1.setCell ⟨b, 2, none⟩ lv').setCell ⟨b, 0, none⟩ (.int .i64 ((vs.length : Int) + 1))) b lv' (vs ++ [l]) ∧ Fr (b :: lv.ownBlock.toList) w ((w1.setCell ⟨b, 2, none⟩ lv').setCell ⟨b, 0, none⟩ (.int .i64 ((vs.length : Int) + 1))) ∧
    w1.cell? ⟨b, 2, none⟩ = some lv ∧ w1.frozen? ⟨b, 2, none⟩ = false ∧ w1.cell? ⟨b, 0, none⟩ = some (.int .i64 (vs.length : Int)) ∧ w1.frozen? ⟨b, 0, none⟩ = false ∧ (∀ k, lv'.ownBlock = some k → lv.ownBlock = some k ∨ w.heap.size ≤ k) := by
  have hbw : b < w.heap.size := by
    rcases Nat.lt_or_ge b w.heap.size with h1 | h1
    · exact h1
    · have := h.blk; rw [Array.getElem?_eq_none h1] at this; cases this
  have hb0 : w0.heap[b]? = some (.cells (bookCells vs.length lv) 81 (0, 0)) := by rw [h0.block b hbw (by simp)]; exact h.blk
  have hne : lv.ownBlock ≠ some b := by
    intro c
    rcases h.own.2 with ⟨hv, _⟩ | ⟨g, cap, cur, hv, _, hg, _⟩
    · rw [hv] at c; cases c
    · rw [hv] at c; simp [Value.ownBlock] at c; subst c; rw [h.blk] at hg; simp at hg
  have hb1 : w1.heap[b]? = some (.cells (bookCells vs.length lv) 81 (0, 0)) := by
    rw [hg.block b (Nat.lt_of_lt_of_le hbw h0.size) (fun c => hne c.symm)]; exact hb0
  have hne' : lv'.ownBlock ≠ some b := by
    rcases hat with c | c
    · rw [c]; exact hne
    · rw [c]; intro e; have := h0.size; simp at e; omega
  refine ⟨⟨?_, ?_⟩, ?_, by simp [World.cell?, hb1, bookCells], by simp [World.frozen?, hb1], by simp [World.cell?, hb1, bookCells], by simp [World.frozen?, hb1], fun k hk => ?_⟩
  · simp [World.setCell, Array.getElem?_modify, hb1, bookCells]
  · have e : hel 0 (vs ++ [l]) = hel 0 vs ++ [l, .int .i64 (vs.length : Int)] := by rw [hel_snoc]; simp
    rw [e, List.length_append]
    refine ⟨hown.1, ?_⟩
    rcases hown.2 with h2 | ⟨g, cap, cur, hv, q0, hg2, r⟩
    · exact Or.inl h2
    · refine Or.inr ⟨g, cap, cur, hv, q0, ?_, r⟩
      have hgb : g ≠ b := by intro c; rw [hv] at hne'; simp [Value.ownBlock, c] at hne'
      rw [Below.heap_setCell _ _ _ _ hgb, Below.heap_setCell _ _ _ _ hgb]; exact hg2
  · have hF : Fr (b :: lv.ownBlock.toList) w w1 := h0.trans (Fr.ofGrown hg) (fun _ _ c => by cases c) (fun x _ c => by simp at c ⊢; exact Or.inr c)
    exact (hF.setCell (Or.inr (by simp)) _).setCell (Or.inr (by simp)) _
  · rcases hat with c | c
    · left; rw [← c]; exact hk
    · right; rw [c] at hk; simp at hk; have := h0.size; omega

theorem cells_new2 (w : World) (x y : Value) (t : TypeId) : ∀ j u, [x, y][j]? = some u → (w.alloc (.cells #[x, y] t)).cell? ((⟨w.heap.size, 0, none⟩ : Addr).add j) = some u := by
  intro j u hj
  match j, hj with
  | 0, hj =>
    simp at hj; subst hj
    show (w.alloc (.cells #[x, y] t)).cell? ⟨w.heap.size, 0, none⟩ = some x
    unfold World.cell?; rw [heap_alloc_new]; rfl
  | 1, hj =>
    simp at hj; subst hj
    show (w.alloc (.cells #[x, y] t)).cell? ⟨w.heap.size, 1, none⟩ = some y
    unfold World.cell?; rw [heap_alloc_new]; rfl
  | j + 2, hj => simp at hj
theorem held_form {B : Nat} {w : World} {e : TypeId} {v : Value} {n : Nat} {xs : List Value} (h : w.ownsRow B e 2 v (n + 1) xs) : ∃ g cap, v = .slice (some ⟨g, 0, none⟩) (n + 1) cap := by
  rcases h.2 with ⟨_, h⟩ | ⟨g, cap, _, h, _⟩
  · omega
  · exact ⟨g, cap, h⟩

set_option maxRecDepth 100000 in
set_option maxHeartbeats 4000000 in
theorem keep_any (B b : Nat) (lv : Value) (vs : List Value) (p : Option Addr) (n cap : Nat) (w : World) (h : Bk B w b lv vs) (hB : B ≤ w.heap.size) (hl : vs.length ≤ 100) :
    Calls Tryz.prog 36 #[.pointer (some ⟨b, 0, none⟩), .slice p n cap] w fun e w' => e = .returned (.tuple #[]) ∧ ∃ lv', Bk B w' b lv' (vs ++ [.slice p n cap]) ∧ Fr (b :: lv.ownBlock.toList) w w' ∧ (∀ k, lv'.ownBlock = some k → lv.ownBlock = some k ∨ w.heap.size ≤ k) := by
  obtain ⟨i0, hi, hz0, hz1, hz2⟩ := info_parts Tryz.infoHeld
  obtain ⟨c0, c1, c2, _, f0⟩ := h.cell
  have fz := f0 2
  go_enter Tryz.func36, Tryz.ntmps36
  have hmx : vs.length + 1 ≤ maxLen := by unfold maxLen; omega
  have hby : (vs.length + 1) * 32 ≤ 140737488355328 := by omega
  have hone : ∀ u ∈ [Value.slice p n cap, .int .i64 (vs.length : Int)], u.oneCell' = true := by
    intro u hu
    rcases List.mem_cons.1 hu with rfl | hu
    · rfl
    · rcases List.mem_cons.1 hu with rfl | hu
      · rfl
      · cases hu
  have HM := hide (And.intro hmx (And.intro hby (And.intro hone h)))
  have h0 : Fr [] w (w.drew.alloc (.cells #[.slice p n cap, .int .i64 (vs.length : Int)] 136)) := ((Fr.refl [] w).drew).alloc _
  have HF := hide h0
  have hlen1 : wrap64 ((vs.length : Int) + 1) = (vs.length : Int) + 1 := by unfold wrap64; omega
  have hbw : b < w.heap.size := by
    rcases Nat.lt_or_ge b w.heap.size with h1 | h1
    · exact h1
    · have := h.blk; rw [Array.getElem?_eq_none h1] at this; cases this
  have c2a : (w.alloc (.cells #[.slice p n cap, .int .i64 (vs.length : Int)] 136)).cell? ⟨b, 2, none⟩ = some lv := by
    rw [World.cell?_of_block (w := w) (Below.heap_alloc _ _ _ hbw)]; exact c2
  clear hmx hby hone h0 h hbw
  go_wp2_with fail
  go_region_law (refine step_append_own rfl (.tmp 8) (.tmp 15) 47 rfl B 136 i0 (.agg #[.slice none 0 0, .int .i64 0]) 2 32 Tryz.underlying47 hi hz0 hz1 hz2 rfl (by decide) lv vs.length (hel 0 vs) (by simp [Act.eval]) ((unhide HM).2.2.2.own.drew.alloc _) ⟨w.heap.size, 0, none⟩ 1 1 [.slice p n cap, .int .i64 (vs.length : Int)] (by simp [Act.eval]) rfl (cells_new2 w.drew _ _ _) (unhide HM).2.2.1 (unhide HM).1 (unhide HM).2.1 (by simp; omega) ?_; intro v' w1 hown' hgrow hat; obtain ⟨k1, k2, k3, k4, k5, k7, k6⟩ := (unhide HM).2.2.2.kept (unhide HF) hown' hgrow hat; obtain ⟨g, cp, rfl⟩ := held_form hown')
  all_goals
    go_wp2_with fail
  all_goals
    go_end0
    exact ⟨rfl, _, k1, k2, k6⟩

end Go.Proofs.YtkaioidneknmjaaGreatDoor.Tn.Td

/- The held lists of a Book, each a row of its own: a store into one of them. -/
namespace Go.Proofs.YtkaioidneknmjaaGreatDoor.Tn.Td
open Go.RowKit

/-- A Book at b whose held lists are rows of their own, of blocks that are unlike one another, and read as ls. -/
structure Hl (B : Nat) (w : World) (b : Nat) (lv : Value) (vs : List Value) (ls : List (List Int)) : Prop where
  bk : Bk B w b lv vs
  len : vs.length = ls.length
  row : ∀ (i : Nat) (v : Value) (l : List Int), vs[i]? = some v → ls[i]? = some l → Ints B w v l
  apart : ∀ (i j : Nat) (u v : Value) (k : Nat), i ≠ j → vs[i]? = some u → vs[j]? = some v → u.ownBlock = some k → v.ownBlock ≠ some k

theorem ints_block {B : Nat} {w : World} {v : Value} {l : List Int} {k : Nat} (h : Ints B w v l) (hk : v.ownBlock = some k) : ∃ cap cur, v = .slice (some ⟨k, 0, none⟩) l.length cap ∧ B ≤ k ∧ w.heap[k]? = some (.cells cur 3 (0, 0)) ∧ l.length ≤ cap ∧ cap ≤ maxLen ∧ cur.size = cap ∧ cur.toList.take l.length = l.map I64 := by
  rcases h.2 with ⟨rfl, _⟩ | ⟨g, cap, cur, hv, h0, hg, h1, h2, h3, h4⟩
  · cases hk
  · rw [hv] at hk; simp [Value.ownBlock] at hk; subst hk
    exact ⟨cap, cur, hv, h0, hg, h1, h2, by omega, by simpa using h4⟩

/-- Where the held list's entries stand. -/
theorem Bk.entry {B : Nat} {w : World} {b : Nat} {lv : Value} {vs : List Value} (h : Bk B w b lv vs) (i : Nat) (v : Value) (hv : vs[i]? = some v) :
    ∃ g cap, lv = .slice (some ⟨g, 0, none⟩) vs.length cap ∧ B ≤ g ∧ w.cell? ⟨g, 2 * i, none⟩ = some v ∧ w.cell? ⟨g, 2 * i + 1, none⟩ = some (.int .i64 (i : Int)) ∧ (∀ k, w.frozen? ⟨g, k, none⟩ = false) ∧ ∃ cur, w.heap[g]? = some (.cells cur 136 (0, 0)) := by
  have hi : i < vs.length := by
    rcases Nat.lt_or_ge i vs.length with h1 | h1
    · exact h1
    · rw [List.getElem?_eq_none h1] at hv; cases hv
  have hel_at : ∀ (vs : List Value) (n i : Nat) (v : Value), vs[i]? = some v → (hel n vs)[2 * i]? = some v ∧ (hel n vs)[2 * i + 1]? = some (.int .i64 ((n + i : Nat) : Int)) := by
    intro vs
    induction vs with
    | nil => intro n i v h; simp at h
    | cons u vs ih =>
      intro n i v h
      cases i with
      | zero => simp at h; subst h; simp [hel]
      | succ i =>
        have := ih (n + 1) i v (by simpa using h)
        have e1 : 2 * (i + 1) = 2 * i + 1 + 1 := by omega
        have e2 : 2 * (i + 1) + 1 = 2 * i + 1 + 1 + 1 := by omega
        rw [e1]
        simp only [hel, List.getElem?_cons_succ]
        refine ⟨this.1, ?_⟩
        have e3 : n + 1 + i = n + (i + 1) := by omega
        rw [e3] at this
        exact this.2
  obtain ⟨a1, a2⟩ := hel_at vs 0 i v hv
  rw [Nat.zero_add] at a2
  rcases h.own.2 with ⟨_, h0⟩ | ⟨g, cap, cur, hl, h0, hg, h1, h2, h3, h4⟩
  · omega
  · have hc : ∀ j u, (hel 0 vs)[j]? = some u → w.cell? ⟨g, j, none⟩ = some u := by
      intro j u hj
      have := h.own.cells (g := g) (by rw [hl]; rfl) j u hj
      cases j <;> simpa [Addr.add] using this
    exact ⟨g, cap, hl, h0, hc _ _ a1, hc _ _ a2, fun k => by simp [World.frozen?, hg], cur, hg⟩

/-- A store into one of the lists. -/
theorem Hl.store {B : Nat} {w : World} {b : Nat} {lv : Value} {vs : List Value} {ls : List (List Int)} (h : Hl B w b lv vs ls) {i g cap k : Nat} {l : List Int} (hv : vs[i]? = some (.slice (some ⟨g, 0, none⟩) l.length cap)) (hl : ls[i]? = some l) (hk : k < l.length) (c : Int) :
    Hl B (w.setCell ⟨g, k, none⟩ (.int .i64 c)) b lv vs (ls.set i (l.set k c)) ∧ (w.cell? ⟨g, k, none⟩).isSome = true ∧ w.frozen? ⟨g, k, none⟩ = false ∧ B ≤ g := by
  have hI := h.row i _ l hv hl
  obtain ⟨cap', cur, he, hB, hg, h1, h2, h3, h4⟩ := ints_block hI (k := g) rfl
  have hcap : cap' = cap := by cases he; rfl
  subst hcap
  have hgb : g ≠ b := by rintro rfl; rw [h.bk.blk] at hg; simp at hg
  have hgl : lv.ownBlock ≠ some g := by
    intro e
    rcases h.bk.own.2 with ⟨hv', _⟩ | ⟨g', cp', cur', hv', _, hg', _⟩
    · rw [hv'] at e; cases e
    · rw [hv'] at e; simp [Value.ownBlock] at e; subst e; rw [hg] at hg'; simp at hg'
  refine ⟨⟨⟨?_, ?_⟩, ?_, ?_, h.apart⟩, ?_, by simp [World.frozen?, hg], hB⟩
  · rw [Below.heap_setCell _ _ _ _ (Ne.symm hgb)]; exact h.bk.blk
  · refine ⟨h.bk.own.1, ?_⟩
    rcases h.bk.own.2 with h5 | ⟨g', cp', cur', hv', q0, hg', r⟩
    · exact Or.inl h5
    · refine Or.inr ⟨g', cp', cur', hv', q0, ?_, r⟩
      have : g' ≠ g := by rintro rfl; rw [hv'] at hgl; exact hgl rfl
      rw [Below.heap_setCell _ _ _ _ this]; exact hg'
  · rw [List.length_set]; exact h.len
  · intro j u m hu hm
    by_cases hji : j = i
    · subst hji
      rw [hv] at hu
      cases hu
      have hlt : j < ls.length := by
        rcases Nat.lt_or_ge j ls.length with q | q
        · exact q
        · rw [List.getElem?_eq_none q] at hl; cases hl
      rw [List.getElem?_set_self hlt] at hm
      cases hm
      refine ⟨by simp, Or.inr ⟨g, cap', cur.set! k (.int .i64 c), by simp, hB, ?_, by simpa using h1, h2, by simp [h3], ?_⟩⟩
      · simp [World.setCell, Array.getElem?_modify, hg]
      · have e : (cur.set! k (.int .i64 c)).toList = cur.toList.set k (.int .i64 c) := by simp [Array.set!_eq_setIfInBounds]
        simp only [List.length_set, Nat.mul_one]
        rw [e, List.take_set, h4, List.map_set]; rfl
    · rw [List.getElem?_set_ne (Ne.symm hji)] at hm
      have hIu := h.row j u m hu hm
      refine ⟨hIu.1, ?_⟩
      rcases hIu.2 with h5 | ⟨g', cp', cur', hv', q0, hg', r⟩
      · exact Or.inl h5
      · refine Or.inr ⟨g', cp', cur', hv', q0, ?_, r⟩
        have : g' ≠ g := by
          rintro rfl
          have := h.apart j i u _ g' hji hu hv (by rw [hv']; rfl)
          exact this rfl
        rw [Below.heap_setCell _ _ _ _ this]; exact hg'
  · have := World.ownsRow.cells hI (g := g) rfl k (I64 (l[k])) (by simp [hk])
    have e : (⟨g, 0, none⟩ : Addr).add k = ⟨g, k, none⟩ := by cases k <;> simp [Addr.add]
    rw [e] at this
    rw [this]; rfl

theorem Hl.drew {B : Nat} {w : World} {b : Nat} {lv : Value} {vs : List Value} {ls : List (List Int)} (h : Hl B w b lv vs ls) : Hl B w.drew b lv vs ls := ⟨⟨h.bk.blk, h.bk.own⟩, h.len, h.row, h.apart⟩

end Go.Proofs.YtkaioidneknmjaaGreatDoor.Tn.Td

/- The contract of fillNumber: every number of every held list becomes the list's mark. -/
namespace Go.Proofs.YtkaioidneknmjaaGreatDoor.Tn.Td
open Go.RowKit

def mk (i : Nat) : Int := -1000 - (i : Int)

theorem mark_any (i : Nat) (w : World) (hi : i ≤ 100) : Calls Tryz.prog 153 #[.int .i64 (i : Int)] w fun e w' => e = .returned (.int .i64 (mk i)) ∧ w' = w := by
  have hw : wrap64 (-1000 - (i : Int)) = -1000 - (i : Int) := by unfold wrap64; omega
  unfold mk
  go_enter Tryz.func153, Tryz.ntmps153
  go_wp2
  go_ret
  exact ⟨rfl, rfl⟩

theorem rep_set (l : List Int) (k : Nat) (c : Int) (h : k < l.length) : (List.replicate k c ++ l.drop k).set k c = List.replicate (k + 1) c ++ l.drop (k + 1) := by
  rw [List.set_append_right _ _ (by simp)]
  simp only [List.length_replicate, Nat.sub_self]
  rw [List.drop_eq_getElem_cons h, List.set_cons_zero, List.replicate_succ', List.append_assoc]
  rfl
theorem setCell_below {B : Nat} {w wq : World} {G k : Nat} {c : Value} (h : Below B w wq) (hG : B ≤ G) : Below B w (wq.setCell ⟨G, k, none⟩ c) :=
  ⟨h.os, h.tape, h.output, by simpa [World.setCell] using h.size, fun j hj => by rw [Below.heap_setCell _ _ _ _ (show j ≠ G by omega)]; exact h.block j hj⟩

theorem entry2 {B : Nat} {w : World} {b : Nat} {lv : Value} {vs : List Value} {g cap : Nat} (h : Bk B w b lv vs) (hlv : lv = .slice (some ⟨g, 0, none⟩) vs.length cap) (i : Nat) (v : Value) (hv : vs[i]? = some v) :
    w.cell? ⟨g, i * 2, none⟩ = some v ∧ w.cell? ⟨g, i * 2 + 1, none⟩ = some (.int .i64 (i : Int)) := by
  obtain ⟨g', cap', h1, _, h3, h4, _⟩ := h.entry i v hv
  rw [h1] at hlv
  cases hlv
  rw [Nat.mul_comm i 2]
  exact ⟨h3, h4⟩

set_option maxRecDepth 100000 in
set_option maxHeartbeats 4000000 in
theorem fill_any (B b : Nat) (lv : Value) (vs : List Value) (ls : List (List Int)) (w : World) (h : Hl B w b lv vs ls) (h0 : 0 < vs.length) (h100 : vs.length ≤ 100) (hls : ∀ l ∈ ls, l.length ≤ 1000) (D : List Nat) (hD : ∀ v ∈ vs, ∀ k, v.ownBlock = some k → k ∉ D) :
    Calls Tryz.prog 37 #[.pointer (some ⟨b, 0, none⟩)] w fun e w' => e = .returned (.tuple #[]) ∧ (∃ ls', Hl B w' b lv vs ls' ∧ ∀ (j : Nat) (l : List Int), ls[j]? = some l → ls'[j]? = some (List.replicate l.length (mk j))) ∧ Bz B D w w' := by
  have c2 := h.bk.cell.2.2.1
  obtain ⟨g, cap, hlv, hgB⟩ : ∃ g cap, lv = .slice (some ⟨g, 0, none⟩) vs.length cap ∧ B ≤ g := by
    obtain ⟨g, cap, h1, h2, _⟩ := h.bk.entry 0 (vs[0]) (List.getElem?_eq_getElem h0)
    exact ⟨g, cap, h1, h2⟩
  subst hlv
  obtain ⟨N, hN⟩ : ∃ N, vs.length = N := ⟨_, rfl⟩
  have hlen := h.len
  rw [hN] at c2 h100 h0 h hlen ⊢
  have HN := hide hN
  have HL := hide (And.intro hlen (And.intro hls h))
  have HD := hide hD
  clear hN hlen hls h hD
  go_enter Tryz.func37, Tryz.ntmps37
  go_wp2_with fail
  go_loopw [10] (fun iv wr => ∃ (i : Nat) (ls' : List (List Int)), iv = .int .i64 i ∧ i ≤ N ∧ Hid (Hl B wr b (.slice (some ⟨g, 0, none⟩) N cap) vs ls' ∧ ∀ (j : Nat) (l : List Int), ls[j]? = some l → ls'[j]? = some (if j < i then List.replicate l.length (mk j) else l)) ∧ Bz B D w wr) (fun iv _ => (N - intOf iv).toNat)
  case atStart => exact ⟨0, ls, rfl, by omega, ⟨(unhide HL).2.2, fun j l hj => by simpa using hj⟩, Bz.refl _ _ _⟩
  case round =>
    obtain ⟨i, ls', rfl, hi, hst, hbel⟩ := hrel
    by_cases hin : i < N
    · obtain ⟨v, hv⟩ : ∃ v, vs[i]? = some v := ⟨_, List.getElem?_eq_getElem (by have := unhide HN; omega)⟩
      obtain ⟨l, hl⟩ : ∃ l, ls[i]? = some l := ⟨_, List.getElem?_eq_getElem (by have := (unhide HL).1; omega)⟩
      have hl' : ls'[i]? = some l := by have := (unhide hst).2 i l hl; simpa using this
      have hI := (unhide hst).1.row i v l hv hl'
      obtain ⟨⟨p, cp, rfl⟩, hmax⟩ := hI.nums.form
      have hll : l.length ≤ 1000 := (unhide HL).2.1 l (List.mem_of_getElem? hl)
      obtain ⟨d1, d2⟩ := entry2 (unhide hst).1.bk (by rw [unhide HN]) i _ hv
      have e2 := (unhide hst).1.bk.cell.2.2.1
      have K := fun w' => mark_any i w' (by omega)
      have hiN : (i : Int) < (N : Int) := by omega
      obtain ⟨M, hM⟩ : ∃ M, l.length = M := ⟨_, rfl⟩
      rw [hM] at hll hv d1
      have HV := hide (And.intro hv (And.intro hl (And.intro hl' (And.intro hM hI))))
      clear hv hl hl' hM hI hmax
      go_wp2_with fail
      go_loopw [24] (fun kv wq => ∃ (k : Nat) (lq : List (List Int)), kv = .int .i64 k ∧ k ≤ M ∧ Hid (Hl B wq b (.slice (some ⟨g, 0, none⟩) N cap) vs lq ∧ ∀ (j : Nat) (m : List Int), ls[j]? = some m → lq[j]? = some (if j < i then List.replicate m.length (mk j) else if j = i then List.replicate k (mk i) ++ m.drop k else m)) ∧ Bz B D w wq) (fun kv _ => (M - intOf kv).toNat)
      case atStart =>
        refine ⟨0, ls', rfl, by omega, ⟨(unhide hst).1, fun j m hj => ?_⟩, hbel⟩
        have := (unhide hst).2 j m hj
        rw [this]
        by_cases q : j < i
        · simp [q]
        · simp [q]
      case round =>
        obtain ⟨k, lq, rfl, hk, hsq, hbq⟩ := hrel
        by_cases hkM : k < M
        · obtain ⟨d1', d2'⟩ := entry2 (unhide hsq).1.bk (by rw [unhide HN]) i _ (unhide HV).1
          have hlM : l.length = M := (unhide HV).2.2.2.1
          have hlk : lq[i]? = some (List.replicate k (mk i) ++ l.drop k) := by
            have := (unhide hsq).2 i l (unhide HV).2.1
            simpa using this
          have hlen2 : (List.replicate k (mk i) ++ l.drop k).length = M := by simp; omega
          have hIq := (unhide hsq).1.row i _ _ (unhide HV).1 hlk
          obtain ⟨gv, hgv⟩ : ∃ gv, p = some ⟨gv, 0, none⟩ := by
            rcases hIq.2 with ⟨q, _⟩ | ⟨g', cap', cur, q, _⟩
            · cases q; omega
            · cases q; exact ⟨g', rfl⟩
          subst hgv
          have hvv : vs[i]? = some (.slice (some ⟨gv, 0, none⟩) (List.replicate k (mk i) ++ l.drop k).length cp) := by rw [hlen2]; exact (unhide HV).1
          obtain ⟨hs1, hs2, hs3, hs4⟩ := (unhide hsq).1.store hvv hlk (k := k) (by omega) (mk i)
          obtain ⟨x, hx⟩ := Option.isSome_iff_exists.1 hs2
          have hkM' : (k : Int) < (M : Int) := by omega
          have hspec : ∀ (j : Nat) (m : List Int), ls[j]? = some m → (lq.set i ((List.replicate k (mk i) ++ l.drop k).set k (mk i)))[j]? = some (if j < i then List.replicate m.length (mk j) else if j = i then List.replicate (k + 1) (mk i) ++ m.drop (k + 1) else m) := by
            intro j m hj
            by_cases q2 : j = i
            · subst q2
              rw [(unhide HV).2.1] at hj
              cases hj
              have hlt : j < lq.length := by
                rcases Nat.lt_or_ge j lq.length with q | q
                · exact q
                · rw [List.getElem?_eq_none q] at hlk; cases hlk
              rw [List.getElem?_set_self hlt, rep_set _ _ _ (by omega)]
              simp
            · rw [List.getElem?_set_ne (Ne.symm q2), (unhide hsq).2 j m hj]
              simp [q2]
          have HG := hide (unhide HD _ (List.mem_of_getElem? (unhide HV).1) gv rfl)
          have HS := hide (And.intro hs1.drew (And.intro hspec hs4))
          have e2q := (unhide hsq).1.bk.cell.2.2.1
          clear hs1 hs2 hspec hvv hIq hlen2 hlk hlM hs4
          generalize mk i = mi at *
          go_wp2_with fail
          go_region_with (first | (go_at_call 153; refine (K _).mono ?_; rintro e w5 ⟨rfl, rfl⟩))
          all_goals
            go_wp2_with fail
            go_roundw
            case rel => exact ⟨k + 1, _, by go_num, by omega, ⟨(unhide HS).1, (unhide HS).2.1⟩, (hbq.set (unhide HS).2.2 (unhide HG)).drew⟩
            case measure => simp only [intOf]; omega
        · have hke : k = M := by omega
          subst hke
          go_wp2_with fail
          go_roundw
          case rel =>
            refine ⟨i + 1, lq, by go_num, by omega, ⟨(unhide hsq).1, fun j m hj => ?_⟩, hbq⟩
            have := (unhide hsq).2 j m hj
            rw [this]
            by_cases q : j < i
            · rw [if_pos q, if_pos (by omega)]
            · by_cases q2 : j = i
              · subst q2
                rw [(unhide HV).2.1] at hj
                cases hj
                rw [if_neg q, if_pos rfl, if_pos (by omega), List.drop_eq_nil_of_le (by have := (unhide HV).2.2.2.1; omega), List.append_nil, (unhide HV).2.2.2.1]
              · rw [if_neg q, if_neg q2, if_neg (by omega)]
          case measure => simp only [intOf]; omega
    · have hie : i = N := by omega
      subst hie
      go_wp2_with fail
      go_end0
      refine ⟨rfl, ⟨ls', (unhide hst).1, fun j l hj => ?_⟩, hbel⟩
      have := (unhide hst).2 j l hj
      rw [if_pos] at this
      · exact this
      · have h1 := (unhide HL).1
        have h2 := unhide HN
        rcases Nat.lt_or_ge j ls.length with q | q
        · omega
        · rw [List.getElem?_eq_none q] at hj; cases hj

end Go.Proofs.YtkaioidneknmjaaGreatDoor.Tn.Td

/- The contract of growNumber: each held list grows by three marks of its own. -/
namespace Go.Proofs.YtkaioidneknmjaaGreatDoor.Tn.Td
open Go.RowKit

theorem owns_fr {w w0 : World} {B size n : Nat} {e : TypeId} {v : Value} {xs : List Value} (h : w.ownsRow B e size v n xs) (hf : Fr [] w w0) : w0.ownsRow B e size v n xs := by
  refine ⟨h.1, ?_⟩
  rcases h.2 with h2 | ⟨g, cap, cur, rfl, q0, hg, r⟩
  · exact Or.inl h2
  · refine Or.inr ⟨g, cap, cur, rfl, q0, ?_, r⟩
    rw [hf.block g _ (by simp)]
    · exact hg
    · rcases Nat.lt_or_ge g w.heap.size with h1 | h1
      · exact h1
      · rw [Array.getElem?_eq_none h1] at hg; cases hg
theorem owns_set {w : World} {B size n : Nat} {e : TypeId} {v : Value} {xs : List Value} {g k : Nat} {c : Value} (h : w.ownsRow B e size v n xs) (hg : v.ownBlock ≠ some g) : (w.setCell ⟨g, k, none⟩ c).ownsRow B e size v n xs := by
  refine ⟨h.1, ?_⟩
  rcases h.2 with h2 | ⟨g', cap, cur, rfl, q0, hg', r⟩
  · exact Or.inl h2
  · refine Or.inr ⟨g', cap, cur, rfl, q0, ?_, r⟩
    have : g' ≠ g := by rintro rfl; exact hg rfl
    rw [Below.heap_setCell _ _ _ _ this]; exact hg'
theorem owns_type {w : World} {B size n : Nat} {e e' : TypeId} {v : Value} {xs : List Value} {k : Nat} {cur : Array Value} (h : w.ownsRow B e size v n xs) (hk : v.ownBlock = some k) (hc : w.heap[k]? = some (.cells cur e' (0, 0))) : e = e' := by
  rcases h.2 with ⟨rfl, _⟩ | ⟨g', cap, cur', rfl, q0, hg', r⟩
  · cases hk
  · simp [Value.ownBlock] at hk; subst hk; rw [hc] at hg'; simp at hg'; exact hg'.2.symm
theorem hel_set (vs : List Value) (n i : Nat) (v : Value) (hi : i < vs.length) : hel n (vs.set i v) = (hel n vs).set (i * 2) v := by
  induction vs generalizing n i with
  | nil => simp at hi
  | cons u vs ih =>
    cases i with
    | zero => simp [hel]
    | succ i =>
      have e : (i + 1) * 2 = i * 2 + 1 + 1 := by omega
      rw [e]
      simp only [List.set_cons_succ, hel]
      rw [ih (n + 1) i (by simpa using hi)]
/-- The store of a list that has grown. -/
theorem Hl.grown {B : Nat} {w w0 w1 : World} {b : Nat} {g cap : Nat} {vs : List Value} {ls : List (List Int)} {i : Nat} {v v' : Value} {l : List Int} {c : Int} (h : Hl B w b (.slice (some ⟨g, 0, none⟩) vs.length cap) vs ls) (hv : vs[i]? = some v) (hl : ls[i]? = some l)
    (h0 : Fr [] w w0) (hown : w1.ownsRow B 3 1 v' (l.length + 1) (l.map I64 ++ [.int .i64 c])) (hg : w0.grownBy w1 v.ownBlock) (hat : v'.ownBlock = v.ownBlock ∨ v'.ownBlock = some w0.heap.size) (hB : B ≤ w.heap.size) (D : List Nat) (hD : ∀ u ∈ vs, ∀ k, u.ownBlock = some k → k ∉ D) (hDg : g ∉ D) (hDw : ∀ k ∈ D, k < w.heap.size) :
    Hl B (w1.setCell ⟨g, i * 2, none⟩ v') b (.slice (some ⟨g, 0, none⟩) vs.length cap) (vs.set i v') (ls.set i (l ++ [c])) ∧ (Bz B D w (w1.setCell ⟨g, i * 2, none⟩ v') ∧ ∀ u ∈ vs.set i v', ∀ k, u.ownBlock = some k → k ∉ D) ∧ w1.cell? ⟨g, i * 2, none⟩ = some v ∧ w1.frozen? ⟨g, i * 2, none⟩ = false := by
  have hlvo := h.bk.own
  have hgt : ∃ cur, w.heap[g]? = some (.cells cur 136 (0, 0)) := by
    rcases hlvo.2 with ⟨q, _⟩ | ⟨g', cap', cur, q, _, hg', _⟩
    · cases q
    · cases q; exact ⟨cur, hg'⟩
  obtain ⟨gcur, hgt⟩ := hgt
  have hI := h.row i v l hv hl
  have hi : i < vs.length := by
    rcases Nat.lt_or_ge i vs.length with h1 | h1
    · exact h1
    · rw [List.getElem?_eq_none h1] at hv; cases hv
  have hli : i < ls.length := by have := h.len; omega
  have hlt : ∀ {k : Nat} {o : Obj}, w.heap[k]? = some o → k < w.heap.size := fun {k o} hk => by
    rcases Nat.lt_or_ge k w.heap.size with h1 | h1
    · exact h1
    · rw [Array.getElem?_eq_none h1] at hk; cases hk
  have hgw := hlt hgt
  have hbw := hlt h.bk.blk
  have hs0 := h0.size
  have hvb : v.ownBlock ≠ some b := fun e => by have := owns_type hI e h.bk.blk; exact absurd this (by decide)
  have hvg : v.ownBlock ≠ some g := fun e => by have := owns_type hI e hgt; exact absurd this (by decide)
  have hv'g : v'.ownBlock ≠ some g := by
    rcases hat with q | q
    · rw [q]; exact hvg
    · rw [q]; intro e; simp at e; omega
  have hb1 : w1.heap[b]? = some (.cells (bookCells vs.length (.slice (some ⟨g, 0, none⟩) vs.length cap)) 81 (0, 0)) := by
    rw [hg.block b (by omega) (fun q => hvb q.symm), h0.block b hbw (by simp)]; exact h.bk.blk
  have hgb : b ≠ g := by rintro rfl; rw [h.bk.blk] at hgt; simp at hgt
  have hlv1 : w1.ownsRow B 136 2 (.slice (some ⟨g, 0, none⟩) vs.length cap) vs.length (hel 0 vs) := (owns_fr hlvo h0).kept hg (Or.inr (fun q => hvg q.symm))
  have hge : B ≤ g := (World.ownsRow.lt hlvo g rfl).1
  refine ⟨⟨⟨?_, ?_⟩, ?_, ?_, ?_⟩, ?_, ?_, ?_⟩
  · rw [List.length_set, Below.heap_setCell _ _ _ _ hgb]; exact hb1
  · rw [List.length_set, hel_set vs 0 i v' hi]
    exact (World.ownsRow.stored hlv1 (i * 2) v').1
  · simp only [List.length_set]; exact h.len
  · intro j u m hu hm
    by_cases q : j = i
    · subst q
      rw [List.getElem?_set_self hi] at hu
      rw [List.getElem?_set_self hli] at hm
      cases hu; cases hm
      have : w1.ownsRow B 3 1 v' (l ++ [c]).length ((l ++ [c]).map I64) := by simpa [I64] using hown
      exact owns_set this hv'g
    · rw [List.getElem?_set_ne (Ne.symm q)] at hu hm
      have hu2 := h.row j u m hu hm
      have hug : u.ownBlock ≠ some g := fun e => by have := owns_type hu2 e hgt; exact absurd this (by decide)
      refine owns_set ((owns_fr hu2 h0).kept hg ?_) hug
      cases hub : u.ownBlock with
      | none => exact Or.inl rfl
      | some k => exact Or.inr (fun e => h.apart j i u v k q hu hv hub (by rw [← e]))
  · intro j m u y k hjm hu hy huk hyk
    by_cases q : j = i
    · subst q
      rw [List.getElem?_set_self hi] at hu
      cases hu
      rw [List.getElem?_set_ne hjm] at hy
      rcases hat with q2 | q2
      · rw [q2] at huk; exact h.apart j m v y k hjm hv hy huk hyk
      · rw [q2] at huk; simp at huk
        have hm2 : m < ls.length := by
          rcases Nat.lt_or_ge m vs.length with h1 | h1
          · have := h.len; omega
          · rw [List.getElem?_eq_none h1] at hy; cases hy
        have := (World.ownsRow.lt (h.row m y _ hy (List.getElem?_eq_getElem hm2)) k hyk).2
        omega
    · rw [List.getElem?_set_ne (Ne.symm q)] at hu
      by_cases q3 : m = i
      · subst q3
        rw [List.getElem?_set_self hi] at hy
        cases hy
        rcases hat with q2 | q2
        · rw [q2] at hyk; exact h.apart j m u v k hjm hu hv huk hyk
        · rw [q2] at hyk; simp at hyk
          have hj2 : j < ls.length := by
            rcases Nat.lt_or_ge j vs.length with h1 | h1
            · have := h.len; omega
            · rw [List.getElem?_eq_none h1] at hu; cases hu
          have := (World.ownsRow.lt (h.row j u _ hu (List.getElem?_eq_getElem hj2)) k huk).2
          omega
      · rw [List.getElem?_set_ne (Ne.symm q3)] at hy
        exact h.apart j m u y k hjm hu hy huk hyk
  · have hbel : Below B w w0 := bw_mono h0.toBelow hB
    have hvD := hD v (List.mem_of_getElem? hv)
    have hb9 : Bz B D w w1 := ⟨hbel.grown hg (by omega) (fun k hk => (World.ownsRow.lt hI k hk).1), fun k hk => by rw [hg.block k (by have := hDw k hk; omega) (fun q => hvD k q.symm hk), h0.block k (hDw k hk) (by simp)]⟩
    refine ⟨hb9.set hge hDg, fun u hu k huk => ?_⟩
    rcases List.mem_or_eq_of_mem_set hu with q | rfl
    · exact hD u q k huk
    · rcases hat with q | q
      · rw [q] at huk; exact hvD k huk
      · rw [q] at huk; simp at huk; intro c; have := hDw k c; omega
  · obtain ⟨e1, _⟩ := entry2 (w := w1) (b := b) ⟨hb1, hlv1⟩ rfl i v hv
    exact e1
  · have : ∃ cur, w1.heap[g]? = some (.cells cur 136 (0, 0)) := by
      rcases hlv1.2 with ⟨q, _⟩ | ⟨g', cap', cur, q, _, hg', _⟩
      · cases q
      · cases q; exact ⟨cur, hg'⟩
    obtain ⟨cur, q⟩ := this
    simp [World.frozen?, q]

theorem row_form {B : Nat} {w : World} {e : TypeId} {v : Value} {n : Nat} {xs : List Value} (h : w.ownsRow B e 1 v (n + 1) xs) : ∃ g cap, v = .slice (some ⟨g, 0, none⟩) (n + 1) cap := by
  rcases h.2 with ⟨_, h⟩ | ⟨g, cap, _, h, _⟩
  · omega
  · exact ⟨g, cap, h⟩

theorem grown_len {B : Nat} {w : World} {b g cap N : Nat} {vq vs : List Value} {ls : List (List Int)} (hN : vq.length = N) (h : Hl B w b (.slice (some ⟨g, 0, none⟩) vq.length cap) vs ls) : Hl B w b (.slice (some ⟨g, 0, none⟩) N cap) vs ls := by rw [← hN]; exact h

set_option maxRecDepth 100000 in
set_option maxHeartbeats 4000000 in
theorem grow_any (B b : Nat) (lv : Value) (vs : List Value) (ls : List (List Int)) (w : World) (h : Hl B w b lv vs ls) (h0 : 0 < vs.length) (h100 : vs.length ≤ 100) (hls : ∀ l ∈ ls, l.length ≤ 1000) (hB : B ≤ w.heap.size) (D : List Nat) (hD : ∀ v ∈ vs, ∀ k, v.ownBlock = some k → k ∉ D) (hDl : ∀ k, lv.ownBlock = some k → k ∉ D) (hDw : ∀ k ∈ D, k < w.heap.size) :
    Calls Tryz.prog 70 #[.pointer (some ⟨b, 0, none⟩)] w fun e w' => e = .returned (.tuple #[]) ∧ (∃ vs' ls', vs'.length = vs.length ∧ Hl B w' b lv vs' ls' ∧ ∀ (j : Nat) (l : List Int), ls[j]? = some l → ls'[j]? = some (l ++ List.replicate 3 (mk j))) ∧ Bz B D w w' := by
  obtain ⟨i0, hi0, hz0, hz1, hz2⟩ := info_parts Tryz.infoInt
  have c2 := h.bk.cell.2.2.1
  obtain ⟨g, cap, hlv, hgB⟩ : ∃ g cap, lv = .slice (some ⟨g, 0, none⟩) vs.length cap ∧ B ≤ g := by
    obtain ⟨g, cap, h1, h2, _⟩ := h.bk.entry 0 (vs[0]) (List.getElem?_eq_getElem h0)
    exact ⟨g, cap, h1, h2⟩
  subst hlv
  have hDg : g ∉ D := hDl g rfl
  obtain ⟨N, hN⟩ : ∃ N, vs.length = N := ⟨_, rfl⟩
  have hlen := h.len
  rw [hN] at c2 h100 h0 h hlen ⊢
  have HN := hide hN
  have HL := hide (And.intro hlen (And.intro hls h))
  have HDg := hide (And.intro hDg hDw)
  have HDv := hide hD
  clear hN hlen hls h hDg hDw hD hDl
  go_enter Tryz.func70, Tryz.ntmps70
  go_wp2_with fail
  go_loopw [10] (fun iv wr => ∃ (i : Nat) (vs' : List Value) (ls' : List (List Int)), iv = .int .i64 i ∧ i ≤ N ∧ Hid ((vs'.length = N ∧ ∀ v ∈ vs', ∀ k, v.ownBlock = some k → k ∉ D) ∧ Hl B wr b (.slice (some ⟨g, 0, none⟩) N cap) vs' ls' ∧ ∀ (j : Nat) (l : List Int), ls[j]? = some l → ls'[j]? = some (if j < i then l ++ List.replicate 3 (mk j) else l)) ∧ Bz B D w wr) (fun iv _ => (N - intOf iv).toNat)
  case atStart => exact ⟨0, vs, ls, rfl, by omega, ⟨⟨unhide HN, unhide HDv⟩, (unhide HL).2.2, fun j l hj => by simpa using hj⟩, Bz.refl _ _ _⟩
  case round =>
    obtain ⟨i, vs', ls', rfl, hi, hst, hbel⟩ := hrel
    by_cases hin : i < N
    · have e2 := (unhide hst).2.1.bk.cell.2.2.1
      have hiN : (i : Int) < (N : Int) := by omega
      go_wp2_with fail
      go_loopw [4] (fun kv wq => ∃ (k : Nat) (vq : List Value) (lq : List (List Int)), kv = .int .i64 k ∧ k ≤ 3 ∧ Hid ((vq.length = N ∧ ∀ v ∈ vq, ∀ k, v.ownBlock = some k → k ∉ D) ∧ Hl B wq b (.slice (some ⟨g, 0, none⟩) N cap) vq lq ∧ ∀ (j : Nat) (m : List Int), ls[j]? = some m → lq[j]? = some (if j < i then m ++ List.replicate 3 (mk j) else if j = i then m ++ List.replicate k (mk i) else m)) ∧ Bz B D w wq) (fun kv _ => (3 - intOf kv).toNat)
      case atStart =>
        refine ⟨0, vs', ls', rfl, by omega, ⟨(unhide hst).1, (unhide hst).2.1, fun j m hj => ?_⟩, hbel⟩
        rw [(unhide hst).2.2 j m hj]
        by_cases q : j < i
        · simp [q]
        · simp [q]
      case round =>
        obtain ⟨k, vq, lq, rfl, hk, hsq, hbq⟩ := hrel
        by_cases hk3 : k < 3
        · obtain ⟨v, hv⟩ : ∃ v, vq[i]? = some v := ⟨_, List.getElem?_eq_getElem (by have := (unhide hsq).1.1; omega)⟩
          obtain ⟨l, hl⟩ : ∃ l, ls[i]? = some l := ⟨_, List.getElem?_eq_getElem (by have := (unhide HL).1; omega)⟩
          have hlq : lq[i]? = some (l ++ List.replicate k (mk i)) := by have := (unhide hsq).2.2 i l hl; simpa using this
          have hll : l.length ≤ 1000 := (unhide HL).2.1 l (List.mem_of_getElem? hl)
          have hHq := (unhide hsq).2.1
          rw [← (unhide hsq).1.1] at hHq
          have hI := hHq.row i v _ hv hlq
          obtain ⟨d1, d2⟩ := entry2 hHq.bk rfl i v hv
          have hgw : g < wr.heap.size := (World.ownsRow.lt hHq.bk.own g rfl).2
          have K := fun w' => mark_any i w' (by omega)
          have hspec : ∀ (j : Nat) (m : List Int), ls[j]? = some m → (lq.set i (l ++ List.replicate k (mk i) ++ [mk i]))[j]? = some (if j < i then m ++ List.replicate 3 (mk j) else if j = i then m ++ List.replicate (k + 1) (mk i) else m) := by
            intro j m hj
            by_cases q2 : j = i
            · subst q2
              rw [hl] at hj
              cases hj
              have hlt : j < lq.length := by
                rcases Nat.lt_or_ge j lq.length with q | q
                · exact q
                · rw [List.getElem?_eq_none q] at hlq; cases hlq
              rw [List.getElem?_set_self hlt, if_neg (by omega), if_pos rfl, List.replicate_succ', List.append_assoc]
            · rw [List.getElem?_set_ne (Ne.symm q2), (unhide hsq).2.2 j m hj]
              simp [q2]
          generalize hmi : mk i = mi at *
          have d1a : (wr.alloc (.cells #[.int .i64 mi] 3)).cell? ⟨g, i * 2, none⟩ = some v := by
            rw [World.cell?_of_block (w := wr) (Below.heap_alloc _ _ _ hgw)]; exact d1
          have h00 : Fr [] wr (wr.drew.alloc (.cells #[.int .i64 mi] 3)) := ((Fr.refl [] wr).drew).alloc _
          obtain ⟨lk, hlk⟩ : ∃ lk, l ++ List.replicate k mi = lk := ⟨_, rfl⟩
          rw [hlk] at hlq hI hspec
          have hlkl : lk.length ≤ 1003 := by rw [← hlk]; simp; omega
          have hmx : lk.length + 1 ≤ maxLen := by unfold maxLen; omega
          have hby : (lk.length + 1) * 8 ≤ 140737488355328 := by omega
          have hone : ∀ u ∈ [Value.int .i64 mi], u.oneCell' = true := by
            intro u hu
            rcases List.mem_cons.1 hu with rfl | hu
            · rfl
            · cases hu
          have hBw : B ≤ wr.heap.size := Nat.le_trans hB hbq.size
          have hBw2 : B ≤ (wr.drew.alloc (.cells #[.int .i64 mi] 3)).heap.size := Nat.le_trans hBw h00.size
          have HA := hide (And.intro hmx (And.intro hby (And.intro hone (And.intro hI (And.intro hHq (And.intro hv (And.intro hlq (And.intro h00 (And.intro hBw hspec)))))))))
          clear hmx hby hone hI hHq hv hlq h00 hspec hl hlk hll hmi hlkl
          go_wp2_with fail
          go_region_law (first | (refine step_append_own rfl (.tmp 27) (.tmp 33) 23 rfl B 3 i0 (.int .i64 0) 1 8 Tryz.underlying23 hi0 hz0 hz1 hz2 rfl (by decide) v lk.length (lk.map I64) (by simp [Act.eval]) ((unhide HA).2.2.2.1.drew.alloc _) ⟨wr.heap.size, 0, none⟩ 1 1 [.int .i64 mi] (by simp [Act.eval]) rfl (cell_one_new wr.drew _ _) (unhide HA).2.2.1 (unhide HA).1 (unhide HA).2.1 hBw2 ?_; intro v' w1 hown' hgrow hat; obtain ⟨k1, k2, k3, k4⟩ := (unhide HA).2.2.2.2.1.grown (unhide HA).2.2.2.2.2.1 (unhide HA).2.2.2.2.2.2.1 (unhide HA).2.2.2.2.2.2.2.1 hown' hgrow hat (unhide HA).2.2.2.2.2.2.2.2.1 D (unhide hsq).1.2 (unhide HDg).1 (fun k hk => Nat.lt_of_lt_of_le ((unhide HDg).2 k hk) hbq.size); obtain ⟨gv, cp, rfl⟩ := row_form hown') | (go_simp; go_wp2_with (first | (go_at_call 153; refine (K _).mono ?_; rintro e w5 ⟨rfl, rfl⟩))))
          all_goals
            go_wp2_with fail
            go_roundw
            case rel => refine ⟨k + 1, _, _, by go_num, by omega, ⟨⟨?_, k2.2⟩, grown_len (unhide hsq).1.1 k1, (unhide HA).2.2.2.2.2.2.2.2.2⟩, hbq.trans k2.1⟩; rw [List.length_set]; exact (unhide hsq).1.1
            case measure => simp only [intOf]; omega
        · have hke : k = 3 := by omega
          subst hke
          go_wp2_with fail
          go_roundw
          case rel =>
            refine ⟨i + 1, vq, lq, by go_num, by omega, ⟨(unhide hsq).1, (unhide hsq).2.1, fun j m hj => ?_⟩, hbq⟩
            rw [(unhide hsq).2.2 j m hj]
            by_cases q : j < i
            · rw [if_pos q, if_pos (by omega)]
            · by_cases q2 : j = i
              · subst q2; rw [if_neg q, if_pos rfl, if_pos (by omega)]
              · rw [if_neg q, if_neg q2, if_neg (by omega)]
          case measure => simp only [intOf]; omega
    · have hie : i = N := by omega
      subst hie
      go_wp2_with fail
      go_end0
      refine ⟨rfl, ⟨vs', ls', by rw [(unhide hst).1.1], (unhide hst).2.1, fun j l hj => ?_⟩, hbel⟩
      have := (unhide hst).2.2 j l hj
      rw [if_pos] at this
      · exact this
      · have h1 := (unhide HL).1
        rcases Nat.lt_or_ge j ls.length with q | q
        · omega
        · rw [List.getElem?_eq_none q] at hj; cases hj

end Go.Proofs.YtkaioidneknmjaaGreatDoor.Tn.Td

/- The contract of lookNumber over held lists that are all marks. -/
namespace Go.Proofs.YtkaioidneknmjaaGreatDoor.Tn.Td
open Go.RowKit

theorem isNumber_any (x : Int) (i : Nat) (w : World) (hi : i ≤ 100) : Calls Tryz.prog 186 #[.int .i64 x, .int .i64 (i : Int)] w fun e w' => e = .returned (.bool (x == mk i)) ∧ w' = w := by
  have K := mark_any i w hi
  generalize mk i = m at *
  go_enter Tryz.func186, Tryz.ntmps186
  go_wp2_with fail
  refine K.mono ?_
  rintro e w1 ⟨rfl, rfl⟩
  go_wp2
  go_ret
  exact ⟨rfl, rfl⟩

theorem heap_keep {w w' : World} (hb : Below w.heap.size w w') {k : Nat} {o : Obj} (h : w.heap[k]? = some o) : w'.heap[k]? = some o := by
  rw [hb.block k]
  · exact h
  · rcases Nat.lt_or_ge k w.heap.size with h1 | h1
    · exact h1
    · rw [Array.getElem?_eq_none h1] at h; cases h
theorem Hl.bw {B : Nat} {w w' : World} {b : Nat} {lv : Value} {vs : List Value} {ls : List (List Int)} (h : Hl B w b lv vs ls) (hb : Below w.heap.size w w') : Hl B w' b lv vs ls := by
  refine ⟨⟨heap_keep hb h.bk.blk, ?_⟩, h.len, fun i v l hv hl => (h.row i v l hv hl).bw hb, h.apart⟩
  refine ⟨h.bk.own.1, ?_⟩
  rcases h.bk.own.2 with h2 | ⟨g, cap, cur, q, q0, hg, r⟩
  · exact Or.inl h2
  · exact Or.inr ⟨g, cap, cur, q, q0, heap_keep hb hg, r⟩

set_option maxRecDepth 100000 in
set_option maxHeartbeats 4000000 in
theorem look_any (B b : Nat) (lv : Value) (vs : List Value) (ls : List (List Int)) (w : World) (h : Hl B w b lv vs ls) (h0 : 0 < vs.length) (h100 : vs.length ≤ 100) (hm : ∀ (i : Nat) (l : List Int), ls[i]? = some l → ∀ z ∈ l, z = mk i) :
    Calls Tryz.prog 104 #[.pointer (some ⟨b, 0, none⟩)] w fun e w' => e = .returned (.bool true) ∧ Below w.heap.size w w' := by
  have c2 := h.bk.cell.2.2.1
  obtain ⟨g, cap, hlv, hgB⟩ : ∃ g cap, lv = .slice (some ⟨g, 0, none⟩) vs.length cap ∧ B ≤ g := by
    obtain ⟨g, cap, h1, h2, _⟩ := h.bk.entry 0 (vs[0]) (List.getElem?_eq_getElem h0)
    exact ⟨g, cap, h1, h2⟩
  subst hlv
  obtain ⟨N, hN⟩ : ∃ N, vs.length = N := ⟨_, rfl⟩
  have hlen := h.len
  rw [hN] at c2 h100 h0 h hlen
  have HN := hide hN
  have HL := hide (And.intro hlen (And.intro hm h))
  clear hN hlen hm h
  go_enter Tryz.func104, Tryz.ntmps104
  go_wp2_with fail
  go_loopw [12] (fun iv wr => ∃ i : Nat, iv = .int .i64 i ∧ i ≤ N ∧ Below w.heap.size w wr) (fun iv _ => (N - intOf iv).toNat)
  case atStart => exact ⟨0, rfl, by omega, Below.refl _ _⟩
  case round =>
    obtain ⟨i, rfl, hi, hbel⟩ := hrel
    by_cases hin : i < N
    · have hH := (unhide HL).2.2.bw hbel
      obtain ⟨v, hv⟩ : ∃ v, vs[i]? = some v := ⟨_, List.getElem?_eq_getElem (by have := unhide HN; omega)⟩
      obtain ⟨l, hl⟩ : ∃ l, ls[i]? = some l := ⟨_, List.getElem?_eq_getElem (by have := (unhide HL).1; omega)⟩
      have hI := hH.row i v l hv hl
      have hnum := hI.nums
      obtain ⟨⟨p, cp, rfl⟩, hmax⟩ := hnum.form
      obtain ⟨d1, d2⟩ := entry2 hH.bk (by rw [unhide HN]) i _ hv
      have hmk := (unhide HL).2.1 i l hl
      have hiN : (i : Int) < (N : Int) := by omega
      have K := fun x w' => isNumber_any x i w' (by omega)
      obtain ⟨M, hM⟩ : ∃ M, l.length = M := ⟨_, rfl⟩
      rw [hM] at d1 hmax
      unfold maxLen at hmax
      have HV := hide (And.intro hM (And.intro hnum hmk))
      clear hM hnum hmk hI hH hv hl
      go_wp2_with fail
      go_loopw [19] (fun kv wq => ∃ k : Nat, kv = .int .i64 k ∧ k ≤ M ∧ wq = wr.alloc (.cells #[.slice p M cp, .int .i64 (i : Int)] 136)) (fun kv _ => (M - intOf kv).toNat)
      case atStart => exact ⟨0, rfl, by omega, rfl⟩
      case round =>
        obtain ⟨k, rfl, hk, rfl⟩ := hrel
        by_cases hkM : k < M
        · have hkM' : (k : Int) < (M : Int) := by omega
          obtain ⟨z, hz⟩ : ∃ z, l[k]? = some z := ⟨_, List.getElem?_eq_getElem (by have := (unhide HV).1; omega)⟩
          have hzm := (unhide HV).2.2 z (List.mem_of_getElem? hz)
          obtain ⟨gv, o, cp', hp, hcell⟩ := (unhide HV).2.1.open (by have := (unhide HV).1; omega)
          obtain ⟨hp1, hp2⟩ : p = some ⟨gv, o, none⟩ ∧ cp = cp' := by cases hp; exact ⟨rfl, rfl⟩
          subst hp1
          have cz := hcell k z hz
          have hgw : gv < wr.heap.size := by
            rcases Nat.lt_or_ge gv wr.heap.size with h1 | h1
            · exact h1
            · simp [World.cell?, Array.getElem?_eq_none h1] at cz
          have cza : (wr.alloc (.cells #[.slice (some ⟨gv, o, none⟩) M cp, .int .i64 (i : Int)] 136)).cell? ⟨gv, o + k, none⟩ = some (.int .i64 z) := by
            rw [World.cell?_of_block (w := wr) (Below.heap_alloc _ _ _ hgw)]; exact cz
          have K2 := fun w' => K z w'
          have hb : (z == mk i) = true := by rw [hzm]; simp
          simp only [hb] at K2
          clear hp hp2 hcell hz hzm cz K hb
          go_wp2_with fail
          refine (K2 _).mono ?_
          rintro e w5 ⟨rfl, rfl⟩
          go_wp2_with fail
          go_roundw
          case rel => exact ⟨k + 1, by go_num, by omega, by first | rfl | trivial⟩
          case measure => simp only [intOf]; omega
        · have hke : k = M := by omega
          subst hke
          go_wp2_with fail
          go_roundw
          case rel => exact ⟨i + 1, by go_num, by omega, hbel.alloc hbel.size _⟩
          case measure => simp only [intOf]; omega
    · have hie : i = N := by omega
      subst hie
      go_wp2_with fail
      go_ret
      exact ⟨rfl, hbel⟩

end Go.Proofs.YtkaioidneknmjaaGreatDoor.Tn.Td
