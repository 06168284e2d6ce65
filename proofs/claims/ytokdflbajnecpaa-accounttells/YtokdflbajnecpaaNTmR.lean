/- The document's store of terms in memory, and the contracts of its New, there, May and Make. -/
import Derived.Test.YtokdflbajnecpaaNTmOnce
namespace Go.Proofs.Ytokdflbajnecpaa.Tn
open Go.RowKit Go.Maps

structure Rs (w : World) (b : Nat) (sv : Value) (L : List Tm) : Prop where
  blk : w.heap[b]? = some (.cells #[sv] 103 (0, 0))
  row : TmRow 0 w sv L
  good : Good L
  fit : ∀ t ∈ L, t.ok
def rfoot (b : Nat) (sv : Value) : List Nat := b :: sv.ownBlock.toList
theorem mem_rfoot {b : Nat} {sv : Value} {x : Nat} : x ∈ rfoot b sv ↔ x = b ∨ sv.ownBlock = some x := by
  simp [rfoot, eq_comm]
theorem Rs.lt {w : World} {b : Nat} {sv : Value} {L : List Tm} (h : Rs w b sv L) : ∀ x ∈ rfoot b sv, x < w.heap.size := by
  intro x hx
  rcases mem_rfoot.1 hx with rfl | hx
  · exact lt_of_blk h.blk
  · exact (h.row.lt x hx).2
theorem Rs.apart {w : World} {b : Nat} {sv : Value} {L : List Tm} (h : Rs w b sv L) : sv.ownBlock ≠ some b := by
  intro c
  obtain ⟨cur, hc⟩ := h.row.block c
  rw [h.blk] at hc; simp at hc
theorem Rs.keep {w w' : World} {b : Nat} {sv : Value} {L : List Tm} {S : List Nat} (h : Rs w b sv L) (hf : Fr S w w') (hd : ∀ x ∈ rfoot b sv, x ∉ S) : Rs w' b sv L :=
  ⟨by rw [hf.block b (lt_of_blk h.blk) (hd b (by simp [rfoot]))]; exact h.blk,
   h.row.fr hf (fun k hk => hd k (mem_rfoot.2 (Or.inr hk))), h.good, h.fit⟩
theorem Rs.new {w w' : World} {b : Nat} {sv : Value} {L : List Tm} (h : Rs w b sv L) (hf : Fr [] w w') : Rs w' b sv L := h.keep hf (by simp)
theorem Rs.bw {w w' : World} {b : Nat} {sv : Value} {L : List Tm} (h : Rs w b sv L) (hb : Below w.heap.size w w') : Rs w' b sv L := h.new (Fr.ofBelow hb)
theorem Rs.cells {w : World} {b : Nat} {sv : Value} {L : List Tm} (h : Rs w b sv L) : w.cell? ⟨b, 0, none⟩ = some sv ∧ w.frozen? ⟨b, 0, none⟩ = false := by
  refine ⟨?_, ?_⟩ <;> simp [World.cell?, World.frozen?, h.blk]
theorem Rs.len {w : World} {b : Nat} {sv : Value} {L : List Tm} (h : Rs w b sv L) : L.length ≤ 1048576 := h.good.len
theorem Rs.form {w : World} {b : Nat} {sv : Value} {L : List Tm} (h : Rs w b sv L) : ∃ a cap, sv = .slice a L.length cap := by
  rcases h.row.form with ⟨rfl, rfl⟩ | ⟨g, cap, hv, _⟩
  · exact ⟨none, 0, rfl⟩
  · exact ⟨_, cap, hv⟩
structure RStep (w w' : World) (b : Nat) (sv sv' : Value) (L' : List Tm) : Prop where
  st : Rs w' b sv' L'
  fr : Fr (rfoot b sv) w w'
  place : ∀ k, sv'.ownBlock = some k → sv.ownBlock = some k ∨ w.heap.size ≤ k
theorem RStep.refl {w : World} {b : Nat} {sv : Value} {L : List Tm} (h : Rs w b sv L) : RStep w w b sv sv L := ⟨h, Fr.refl _ _, fun _ hk => Or.inl hk⟩
theorem RStep.same {w w' : World} {b : Nat} {sv : Value} {L : List Tm} (h : Rs w b sv L) (hb : Below w.heap.size w w') : RStep w w' b sv sv L :=
  ⟨h.bw hb, (Fr.ofBelow hb).mono (fun _ _ c => by cases c), fun _ hk => Or.inl hk⟩
theorem RStep.trans {w w1 w2 : World} {b : Nat} {sv sv1 sv2 : Value} {L1 L2 : List Tm} (h : RStep w w1 b sv sv1 L1) (k : RStep w1 w2 b sv1 sv2 L2) : RStep w w2 b sv sv2 L2 := by
  refine ⟨k.st, h.fr.trans k.fr (fun _ _ c => c) (fun x hx c => ?_), fun x hx => ?_⟩
  · rcases mem_rfoot.1 c with c | c
    · exact mem_rfoot.2 (Or.inl c)
    · rcases h.place x c with c | c
      · exact mem_rfoot.2 (Or.inr c)
      · omega
  · rcases k.place x hx with c | c
    · exact h.place x c
    · exact Or.inr (Nat.le_trans h.fr.size c)
theorem RStep.before {w w0 w1 : World} {b : Nat} {sv sv1 : Value} {L1 : List Tm} (h : Below w.heap.size w w0) (k : RStep w0 w1 b sv sv1 L1) : RStep w w1 b sv sv1 L1 :=
  ⟨k.st, (Fr.ofBelow h).trans k.fr (fun _ _ c => by cases c) (fun _ _ c => c), fun x hx => (k.place x hx).imp id (fun c => Nat.le_trans h.size c)⟩
theorem RStep.base {w w1 : World} {B b : Nat} {sv sv1 : Value} {L1 : List Tm} (k : RStep w w1 b sv sv1 L1) (hB : B ≤ w.heap.size) (h : ∀ x ∈ rfoot b sv, B ≤ x) : ∀ x ∈ rfoot b sv1, B ≤ x := by
  intro x hx
  rcases mem_rfoot.1 hx with hx | hx
  · exact h x (mem_rfoot.2 (Or.inl hx))
  · rcases k.place x hx with c | c
    · exact h x (mem_rfoot.2 (Or.inr c))
    · omega
/-- Behind the append of a term, and the store of the new slice. -/
theorem Rs.appended {w w0 w1 : World} {b : Nat} {sv sv' : Value} {N : Nat} {L : List Tm} {t : Tm} (h : Rs w b sv L) (hN : N = L.length) (h0 : Fr [] w w0) (hown : w1.ownsRow 0 55 4 sv' (N + 1) (L.flatMap tmC ++ tmC t)) (hg : w0.grownBy w1 sv.ownBlock)
    (hat : sv'.ownBlock = sv.ownBlock ∨ sv'.ownBlock = some w0.heap.size) (hG : Good (L ++ [t])) (hf : ∀ u ∈ L ++ [t], u.ok) :
    w1.cell? ⟨b, 0, none⟩ = some sv ∧ w1.frozen? ⟨b, 0, none⟩ = false ∧ RStep w (w1.setCell ⟨b, 0, none⟩ sv') b sv sv' (L ++ [t]) ∧ (w1.setCell ⟨b, 0, none⟩ sv').cell? ⟨b, 0, none⟩ = some sv' ∧ (∃ g cap, sv' = .slice (some ⟨g, 0, none⟩) (N + 1) cap) := by
  subst hN
  have a2 := h.apart
  have s0 := h.new h0
  have hb1 : w1.heap[b]? = some (.cells #[sv] 103 (0, 0)) := by
    rw [hg.block b (lt_of_blk s0.blk) (fun c => a2 c.symm)]; exact s0.blk
  have hne : sv'.ownBlock ≠ some b := by
    rcases hat with c | c
    · rw [c]; exact a2
    · rw [c]; intro e; have := lt_of_blk s0.blk; simp at e; omega
  have hbs : (w1.setCell ⟨b, 0, none⟩ sv').heap[b]? = some (.cells #[sv'] 103 (0, 0)) := by simp [World.setCell, Array.getElem?_modify, hb1]
  refine ⟨by simp [World.cell?, hb1], by simp [World.frozen?, hb1], ⟨⟨hbs, ?_, hG, hf⟩, ?_, ?_⟩, by simp [World.cell?, hbs], ?_⟩
  · have hr : TmRow 0 w1 sv' (L ++ [t]) := by unfold TmRow; rw [flat_snoc, List.length_append]; exact hown
    exact hr.keep fun k hk => Below.heap_setCell _ _ _ _ (fun c => hne (by rw [hk, c]))
  · have hF : Fr (rfoot b sv) w w1 := h0.trans (Fr.ofGrown hg) (fun _ _ c => by cases c) (fun x _ c => mem_rfoot.2 (Or.inr (by simpa using c)))
    exact hF.setCell (Or.inr (by simp [rfoot])) _
  · intro k hk
    rcases hat with c | c
    · left; rw [← c]; exact hk
    · right; rw [c] at hk; simp at hk; have := h0.size; omega
  · rcases hown.2 with ⟨_, h⟩ | ⟨g, cap, _, h, _⟩
    · omega
    · exact ⟨g, cap, h⟩

theorem rnew_any (w : World) :
    Calls Try.prog 26 #[] w fun e w' => ∃ b, e = .returned (.pointer (some ⟨b, 0, none⟩)) ∧ Rs w' b (.slice none 0 0) [] ∧ (∀ x ∈ rfoot b (.slice none 0 0), w.heap.size ≤ x) ∧ Below w.heap.size w w' := by
  go_enter Try.func26, Try.ntmps26
  go_wp2
  go_ret
  refine ⟨w.heap.size, rfl, ⟨heap_alloc_new _ _, TmRow.nil _ _, good_nil, by simp⟩, ?_, bw_alloc _ _⟩
  intro x hx
  rcases mem_rfoot.1 hx with rfl | hx
  · omega
  · cases hx

theorem there_any (b : Nat) (sv : Value) (L : List Tm) (x : Int) (w : World) (h : Rs w b sv L) :
    Calls Try.prog 65 #[.pointer (some ⟨b, 0, none⟩), .int .i64 x] w fun e w' => e = .returned (.bool (thr L.length x)) ∧ w' = w := by
  obtain ⟨c0, _⟩ := h.cells
  obtain ⟨a, cap, rfl⟩ := h.form
  have hl : (L.length : Int) ≤ 1048577 := by have := h.len; omega
  clear h
  by_cases h1 : 1 ≤ x
  · have e : thr L.length x = decide (x ≤ (L.length : Int)) := by simp [thr, h1]
    rw [e]
    go_enter Try.func65, Try.ntmps65
    go_wp2
    go_ret
    exact ⟨rfl, rfl⟩
  · have e : thr L.length x = false := by simp [thr, h1]
    rw [e]
    clear e
    go_enter Try.func65, Try.ntmps65
    go_wp2
    go_ret
    exact ⟨rfl, rfl⟩
set_option maxHeartbeats 1000000 in
theorem rmay_1 (p : Value) (N : Nat) (n x y : Int) (w : World) (KH : ∀ z, Calls Try.prog 65 #[p, .int .i64 z] (w.alloc (.cells #[.int .u8 1, .int .i64 n, .int .i64 x, .int .i64 y] 55)) fun e w' => e = .returned (.bool (thr N z)) ∧ w' = (w.alloc (.cells #[.int .u8 1, .int .i64 n, .int .i64 x, .int .i64 y] 55))) :
    Calls Try.prog 62 #[p, .agg #[.int .u8 1, .int .i64 n, .int .i64 x, .int .i64 y]] w fun e w' => e = .returned (.bool (may N ⟨1, n, x, y⟩)) ∧ Below w.heap.size w w' := by
  by_cases hn : 0 ≤ n
  · by_cases hx : x = 0
    · subst hx
      by_cases hy : y = 0
      · subst hy
        have e : may N ⟨1, n, 0, 0⟩ = true := by simp [may, hn]
        rw [e]
        clear e KH
        go_enter Try.func62, Try.ntmps62
        go_wp2_with fail
        go_ret
        exact ⟨rfl, (Below.refl _ _).alloc (Nat.le_refl _) _⟩
      · have zy : (y == 0) = false := by simpa using hy
        have e : may N ⟨1, n, 0, y⟩ = false := by simp [may, hn, hy]
        rw [e]
        clear e KH
        go_enter Try.func62, Try.ntmps62
        go_wp2_with fail
        go_ret
        exact ⟨rfl, (Below.refl _ _).alloc (Nat.le_refl _) _⟩
    · have zx : (x == 0) = false := by simpa using hx
      have e : may N ⟨1, n, x, y⟩ = false := by simp [may, hn, hx]
      rw [e]
      clear e KH
      go_enter Try.func62, Try.ntmps62
      go_wp2_with fail
      go_ret
      exact ⟨rfl, (Below.refl _ _).alloc (Nat.le_refl _) _⟩
  · have e : may N ⟨1, n, x, y⟩ = false := by simp [may, hn]
    rw [e]
    clear e KH
    go_enter Try.func62, Try.ntmps62
    go_wp2_with fail
    go_ret
    exact ⟨rfl, (Below.refl _ _).alloc (Nat.le_refl _) _⟩
set_option maxHeartbeats 1000000 in
theorem rmay_2 (p : Value) (N : Nat) (n x y : Int) (w : World) (KH : ∀ z, Calls Try.prog 65 #[p, .int .i64 z] (w.alloc (.cells #[.int .u8 2, .int .i64 n, .int .i64 x, .int .i64 y] 55)) fun e w' => e = .returned (.bool (thr N z)) ∧ w' = (w.alloc (.cells #[.int .u8 2, .int .i64 n, .int .i64 x, .int .i64 y] 55))) :
    Calls Try.prog 62 #[p, .agg #[.int .u8 2, .int .i64 n, .int .i64 x, .int .i64 y]] w fun e w' => e = .returned (.bool (may N ⟨2, n, x, y⟩)) ∧ Below w.heap.size w w' := by
  by_cases hx : x = 0
  · subst hx
    by_cases hy : y = 0
    · subst hy
      have e : may N ⟨2, n, 0, 0⟩ = true := by simp [may]
      rw [e]
      clear e KH
      go_enter Try.func62, Try.ntmps62
      go_wp2_with fail
      go_ret
      exact ⟨rfl, (Below.refl _ _).alloc (Nat.le_refl _) _⟩
    · have zy : (y == 0) = false := by simpa using hy
      have e : may N ⟨2, n, 0, y⟩ = false := by simp [may, hy]
      rw [e]
      clear e KH
      go_enter Try.func62, Try.ntmps62
      go_wp2_with fail
      go_ret
      exact ⟨rfl, (Below.refl _ _).alloc (Nat.le_refl _) _⟩
  · have zx : (x == 0) = false := by simpa using hx
    have e : may N ⟨2, n, x, y⟩ = false := by simp [may, hx]
    rw [e]
    clear e KH
    go_enter Try.func62, Try.ntmps62
    go_wp2_with fail
    go_ret
    exact ⟨rfl, (Below.refl _ _).alloc (Nat.le_refl _) _⟩
set_option maxHeartbeats 1000000 in
theorem rmay_3 (p : Value) (N : Nat) (n x y : Int) (w : World) (KH : ∀ z, Calls Try.prog 65 #[p, .int .i64 z] (w.alloc (.cells #[.int .u8 3, .int .i64 n, .int .i64 x, .int .i64 y] 55)) fun e w' => e = .returned (.bool (thr N z)) ∧ w' = (w.alloc (.cells #[.int .u8 3, .int .i64 n, .int .i64 x, .int .i64 y] 55))) :
    Calls Try.prog 62 #[p, .agg #[.int .u8 3, .int .i64 n, .int .i64 x, .int .i64 y]] w fun e w' => e = .returned (.bool (may N ⟨3, n, x, y⟩)) ∧ Below w.heap.size w w' := by
  by_cases hn : n = 0
  · subst hn
    cases hx : thr N x
    · have e : may N ⟨3, 0, x, y⟩ = false := by simp [may, hx]
      rw [e]
      have Kx := KH x
      rw [hx] at Kx
      clear e KH
      go_enter Try.func62, Try.ntmps62
      go_wp2_with fail
      refine Kx.mono ?_
      rintro e w1 ⟨rfl, rfl⟩
      go_wp2_with fail
      go_ret
      exact ⟨rfl, (Below.refl _ _).alloc (Nat.le_refl _) _⟩
    · cases hy : thr N y
      · have e : may N ⟨3, 0, x, y⟩ = false := by simp [may, hx, hy]
        rw [e]
        have Kx := KH x
        rw [hx] at Kx
        have Ky := KH y
        rw [hy] at Ky
        clear e KH
        go_enter Try.func62, Try.ntmps62
        go_wp2_with fail
        refine Kx.mono ?_
        rintro e w1 ⟨rfl, rfl⟩
        go_wp2_with fail
        refine Ky.mono ?_
        rintro e w1 ⟨rfl, rfl⟩
        go_wp2_with fail
        go_ret
        exact ⟨rfl, (Below.refl _ _).alloc (Nat.le_refl _) _⟩
      · have e : may N ⟨3, 0, x, y⟩ = true := by simp [may, hx, hy]
        rw [e]
        have Kx := KH x
        rw [hx] at Kx
        have Ky := KH y
        rw [hy] at Ky
        clear e KH
        go_enter Try.func62, Try.ntmps62
        go_wp2_with fail
        refine Kx.mono ?_
        rintro e w1 ⟨rfl, rfl⟩
        go_wp2_with fail
        refine Ky.mono ?_
        rintro e w1 ⟨rfl, rfl⟩
        go_wp2_with fail
        go_ret
        exact ⟨rfl, (Below.refl _ _).alloc (Nat.le_refl _) _⟩
  · have zn : (n == 0) = false := by simpa using hn
    have e : may N ⟨3, n, x, y⟩ = false := by simp [may, hn]
    rw [e]
    clear e KH
    go_enter Try.func62, Try.ntmps62
    go_wp2_with fail
    go_ret
    exact ⟨rfl, (Below.refl _ _).alloc (Nat.le_refl _) _⟩
set_option maxHeartbeats 1000000 in
theorem rmay_6 (p : Value) (N : Nat) (n x y : Int) (w : World) (KH : ∀ z, Calls Try.prog 65 #[p, .int .i64 z] (w.alloc (.cells #[.int .u8 6, .int .i64 n, .int .i64 x, .int .i64 y] 55)) fun e w' => e = .returned (.bool (thr N z)) ∧ w' = (w.alloc (.cells #[.int .u8 6, .int .i64 n, .int .i64 x, .int .i64 y] 55))) :
    Calls Try.prog 62 #[p, .agg #[.int .u8 6, .int .i64 n, .int .i64 x, .int .i64 y]] w fun e w' => e = .returned (.bool (may N ⟨6, n, x, y⟩)) ∧ Below w.heap.size w w' := by
  by_cases hn : n = 0
  · subst hn
    cases hx : thr N x
    · have e : may N ⟨6, 0, x, y⟩ = false := by simp [may, hx]
      rw [e]
      have Kx := KH x
      rw [hx] at Kx
      clear e KH
      go_enter Try.func62, Try.ntmps62
      go_wp2_with fail
      refine Kx.mono ?_
      rintro e w1 ⟨rfl, rfl⟩
      go_wp2_with fail
      go_ret
      exact ⟨rfl, (Below.refl _ _).alloc (Nat.le_refl _) _⟩
    · cases hy : thr N y
      · have e : may N ⟨6, 0, x, y⟩ = false := by simp [may, hx, hy]
        rw [e]
        have Kx := KH x
        rw [hx] at Kx
        have Ky := KH y
        rw [hy] at Ky
        clear e KH
        go_enter Try.func62, Try.ntmps62
        go_wp2_with fail
        refine Kx.mono ?_
        rintro e w1 ⟨rfl, rfl⟩
        go_wp2_with fail
        refine Ky.mono ?_
        rintro e w1 ⟨rfl, rfl⟩
        go_wp2_with fail
        go_ret
        exact ⟨rfl, (Below.refl _ _).alloc (Nat.le_refl _) _⟩
      · have e : may N ⟨6, 0, x, y⟩ = true := by simp [may, hx, hy]
        rw [e]
        have Kx := KH x
        rw [hx] at Kx
        have Ky := KH y
        rw [hy] at Ky
        clear e KH
        go_enter Try.func62, Try.ntmps62
        go_wp2_with fail
        refine Kx.mono ?_
        rintro e w1 ⟨rfl, rfl⟩
        go_wp2_with fail
        refine Ky.mono ?_
        rintro e w1 ⟨rfl, rfl⟩
        go_wp2_with fail
        go_ret
        exact ⟨rfl, (Below.refl _ _).alloc (Nat.le_refl _) _⟩
  · have zn : (n == 0) = false := by simpa using hn
    have e : may N ⟨6, n, x, y⟩ = false := by simp [may, hn]
    rw [e]
    clear e KH
    go_enter Try.func62, Try.ntmps62
    go_wp2_with fail
    go_ret
    exact ⟨rfl, (Below.refl _ _).alloc (Nat.le_refl _) _⟩
set_option maxHeartbeats 1000000 in
theorem rmay_4 (p : Value) (N : Nat) (n x y : Int) (w : World) (KH : ∀ z, Calls Try.prog 65 #[p, .int .i64 z] (w.alloc (.cells #[.int .u8 4, .int .i64 n, .int .i64 x, .int .i64 y] 55)) fun e w' => e = .returned (.bool (thr N z)) ∧ w' = (w.alloc (.cells #[.int .u8 4, .int .i64 n, .int .i64 x, .int .i64 y] 55))) :
    Calls Try.prog 62 #[p, .agg #[.int .u8 4, .int .i64 n, .int .i64 x, .int .i64 y]] w fun e w' => e = .returned (.bool (may N ⟨4, n, x, y⟩)) ∧ Below w.heap.size w w' := by
  by_cases hn : 0 ≤ n
  · cases hx : thr N x
    · have e : may N ⟨4, n, x, y⟩ = false := by simp [may, hn, hx]
      rw [e]
      have Kx := KH x
      rw [hx] at Kx
      clear e KH
      go_enter Try.func62, Try.ntmps62
      go_wp2_with fail
      refine Kx.mono ?_
      rintro e w1 ⟨rfl, rfl⟩
      go_wp2_with fail
      go_ret
      exact ⟨rfl, (Below.refl _ _).alloc (Nat.le_refl _) _⟩
    · by_cases hz : y = 0
      · subst hz
        have e : may N ⟨4, n, x, 0⟩ = true := by simp [may, hn, hx]
        rw [e]
        have Kx := KH x
        rw [hx] at Kx
        clear e KH
        go_enter Try.func62, Try.ntmps62
        go_wp2_with fail
        refine Kx.mono ?_
        rintro e w1 ⟨rfl, rfl⟩
        go_wp2_with fail
        go_ret
        exact ⟨rfl, (Below.refl _ _).alloc (Nat.le_refl _) _⟩
      · have zy : (y == 0) = false := by simpa using hz
        cases hy : thr N y
        · have e : may N ⟨4, n, x, y⟩ = false := by simp [may, hn, hx, hz, hy]
          rw [e]
          have Kx := KH x
          rw [hx] at Kx
          have Ky := KH y
          rw [hy] at Ky
          clear e KH
          go_enter Try.func62, Try.ntmps62
          go_wp2_with fail
          refine Kx.mono ?_
          rintro e w1 ⟨rfl, rfl⟩
          go_wp2_with fail
          refine Ky.mono ?_
          rintro e w1 ⟨rfl, rfl⟩
          go_wp2_with fail
          go_ret
          exact ⟨rfl, (Below.refl _ _).alloc (Nat.le_refl _) _⟩
        · have e : may N ⟨4, n, x, y⟩ = true := by simp [may, hn, hx, hz, hy]
          rw [e]
          have Kx := KH x
          rw [hx] at Kx
          have Ky := KH y
          rw [hy] at Ky
          clear e KH
          go_enter Try.func62, Try.ntmps62
          go_wp2_with fail
          refine Kx.mono ?_
          rintro e w1 ⟨rfl, rfl⟩
          go_wp2_with fail
          refine Ky.mono ?_
          rintro e w1 ⟨rfl, rfl⟩
          go_wp2_with fail
          go_ret
          exact ⟨rfl, (Below.refl _ _).alloc (Nat.le_refl _) _⟩
  · have e : may N ⟨4, n, x, y⟩ = false := by simp [may, hn]
    rw [e]
    clear e KH
    go_enter Try.func62, Try.ntmps62
    go_wp2_with fail
    go_ret
    exact ⟨rfl, (Below.refl _ _).alloc (Nat.le_refl _) _⟩
set_option maxHeartbeats 1000000 in
theorem rmay_5 (p : Value) (N : Nat) (n x y : Int) (w : World) (KH : ∀ z, Calls Try.prog 65 #[p, .int .i64 z] (w.alloc (.cells #[.int .u8 5, .int .i64 n, .int .i64 x, .int .i64 y] 55)) fun e w' => e = .returned (.bool (thr N z)) ∧ w' = (w.alloc (.cells #[.int .u8 5, .int .i64 n, .int .i64 x, .int .i64 y] 55))) :
    Calls Try.prog 62 #[p, .agg #[.int .u8 5, .int .i64 n, .int .i64 x, .int .i64 y]] w fun e w' => e = .returned (.bool (may N ⟨5, n, x, y⟩)) ∧ Below w.heap.size w w' := by
  by_cases hn : n = 0
  · subst hn
    cases hx : thr N x
    · have e : may N ⟨5, 0, x, y⟩ = false := by simp [may, hx]
      rw [e]
      have Kx := KH x
      rw [hx] at Kx
      clear e KH
      go_enter Try.func62, Try.ntmps62
      go_wp2_with fail
      refine Kx.mono ?_
      rintro e w1 ⟨rfl, rfl⟩
      go_wp2_with fail
      go_ret
      exact ⟨rfl, (Below.refl _ _).alloc (Nat.le_refl _) _⟩
    · by_cases hy : y = 0
      · subst hy
        have e : may N ⟨5, 0, x, 0⟩ = true := by simp [may, hx]
        rw [e]
        have Kx := KH x
        rw [hx] at Kx
        clear e KH
        go_enter Try.func62, Try.ntmps62
        go_wp2_with fail
        refine Kx.mono ?_
        rintro e w1 ⟨rfl, rfl⟩
        go_wp2_with fail
        go_ret
        exact ⟨rfl, (Below.refl _ _).alloc (Nat.le_refl _) _⟩
      · have zy : (y == 0) = false := by simpa using hy
        have e : may N ⟨5, 0, x, y⟩ = false := by simp [may, hx, hy]
        rw [e]
        have Kx := KH x
        rw [hx] at Kx
        clear e KH
        go_enter Try.func62, Try.ntmps62
        go_wp2_with fail
        refine Kx.mono ?_
        rintro e w1 ⟨rfl, rfl⟩
        go_wp2_with fail
        go_ret
        exact ⟨rfl, (Below.refl _ _).alloc (Nat.le_refl _) _⟩
  · have zn : (n == 0) = false := by simpa using hn
    have e : may N ⟨5, n, x, y⟩ = false := by simp [may, hn]
    rw [e]
    clear e KH
    go_enter Try.func62, Try.ntmps62
    go_wp2_with fail
    go_ret
    exact ⟨rfl, (Below.refl _ _).alloc (Nat.le_refl _) _⟩
set_option maxHeartbeats 1000000 in
theorem rmay_7 (p : Value) (N : Nat) (n x y : Int) (w : World) (KH : ∀ z, Calls Try.prog 65 #[p, .int .i64 z] (w.alloc (.cells #[.int .u8 7, .int .i64 n, .int .i64 x, .int .i64 y] 55)) fun e w' => e = .returned (.bool (thr N z)) ∧ w' = (w.alloc (.cells #[.int .u8 7, .int .i64 n, .int .i64 x, .int .i64 y] 55))) :
    Calls Try.prog 62 #[p, .agg #[.int .u8 7, .int .i64 n, .int .i64 x, .int .i64 y]] w fun e w' => e = .returned (.bool (may N ⟨7, n, x, y⟩)) ∧ Below w.heap.size w w' := by
  by_cases hn : n = 0
  · subst hn
    cases hx : thr N x
    · have e : may N ⟨7, 0, x, y⟩ = false := by simp [may, hx]
      rw [e]
      have Kx := KH x
      rw [hx] at Kx
      clear e KH
      go_enter Try.func62, Try.ntmps62
      go_wp2_with fail
      refine Kx.mono ?_
      rintro e w1 ⟨rfl, rfl⟩
      go_wp2_with fail
      go_ret
      exact ⟨rfl, (Below.refl _ _).alloc (Nat.le_refl _) _⟩
    · by_cases hy : y = 0
      · subst hy
        have e : may N ⟨7, 0, x, 0⟩ = true := by simp [may, hx]
        rw [e]
        have Kx := KH x
        rw [hx] at Kx
        clear e KH
        go_enter Try.func62, Try.ntmps62
        go_wp2_with fail
        refine Kx.mono ?_
        rintro e w1 ⟨rfl, rfl⟩
        go_wp2_with fail
        go_ret
        exact ⟨rfl, (Below.refl _ _).alloc (Nat.le_refl _) _⟩
      · have zy : (y == 0) = false := by simpa using hy
        have e : may N ⟨7, 0, x, y⟩ = false := by simp [may, hx, hy]
        rw [e]
        have Kx := KH x
        rw [hx] at Kx
        clear e KH
        go_enter Try.func62, Try.ntmps62
        go_wp2_with fail
        refine Kx.mono ?_
        rintro e w1 ⟨rfl, rfl⟩
        go_wp2_with fail
        go_ret
        exact ⟨rfl, (Below.refl _ _).alloc (Nat.le_refl _) _⟩
  · have zn : (n == 0) = false := by simpa using hn
    have e : may N ⟨7, n, x, y⟩ = false := by simp [may, hn]
    rw [e]
    clear e KH
    go_enter Try.func62, Try.ntmps62
    go_wp2_with fail
    go_ret
    exact ⟨rfl, (Below.refl _ _).alloc (Nat.le_refl _) _⟩
set_option maxHeartbeats 1000000 in
theorem rmay_of (p : Value) (N : Nat) (k n x y : Int) (w : World) (KH : ∀ z, Calls Try.prog 65 #[p, .int .i64 z] (w.alloc (.cells #[.int .u8 k, .int .i64 n, .int .i64 x, .int .i64 y] 55)) fun e w' => e = .returned (.bool (thr N z)) ∧ w' = (w.alloc (.cells #[.int .u8 k, .int .i64 n, .int .i64 x, .int .i64 y] 55))) :
    Calls Try.prog 62 #[p, .agg #[.int .u8 k, .int .i64 n, .int .i64 x, .int .i64 y]] w fun e w' => e = .returned (.bool (may N ⟨k, n, x, y⟩)) ∧ Below w.heap.size w w' := by
  by_cases h1 : k = 1
  · subst h1
    exact rmay_1 p N n x y w KH
  by_cases h2 : k = 2
  · subst h2
    exact rmay_2 p N n x y w KH
  by_cases h3 : k = 3
  · subst h3
    exact rmay_3 p N n x y w KH
  by_cases h6 : k = 6
  · subst h6
    exact rmay_6 p N n x y w KH
  by_cases h4 : k = 4
  · subst h4
    exact rmay_4 p N n x y w KH
  by_cases h5 : k = 5
  · subst h5
    exact rmay_5 p N n x y w KH
  by_cases h7 : k = 7
  · subst h7
    exact rmay_7 p N n x y w KH
  have e : may N ⟨k, n, x, y⟩ = false := by simp [may, h1, h2, h3, h6, h4, h5, h7]
  rw [e]
  clear e KH
  have z1 : (k == 1) = false := by simpa using h1
  have z2 : (k == 2) = false := by simpa using h2
  have z3 : (k == 3) = false := by simpa using h3
  have z6 : (k == 6) = false := by simpa using h6
  have z4 : (k == 4) = false := by simpa using h4
  have z5 : (k == 5) = false := by simpa using h5
  have z7 : (k == 7) = false := by simpa using h7
  go_enter Try.func62, Try.ntmps62
  go_wp2
  go_ret
  exact ⟨rfl, (Below.refl _ _).alloc (Nat.le_refl _) _⟩
theorem rmay_any (b : Nat) (sv : Value) (L : List Tm) (k n x y : Int) (w : World) (h : Rs w b sv L) :
    Calls Try.prog 62 #[.pointer (some ⟨b, 0, none⟩), .agg #[.int .u8 k, .int .i64 n, .int .i64 x, .int .i64 y]] w fun e w' => e = .returned (.bool (may L.length ⟨k, n, x, y⟩)) ∧ Below w.heap.size w w' :=
  rmay_of _ _ k n x y w fun z => there_any b sv L z _ (h.bw ((Below.refl w.heap.size w).alloc (Nat.le_refl _) _))

end Go.Proofs.Ytokdflbajnecpaa.Tn
