/- Texts joined: NTmR NTmRMake NTmBuild ScA ScB NBkTGs NTmAc. -/
import Derived.Test.YtpcpcgagiapinaaGreatDoorZ16
import Derived.Test.YtpcpcgagiapinaaGreatDoorZ05
/- The document's store of terms in memory, and the contracts of its New, there, May and Make. -/
namespace Go.Proofs.YtpcpcgagiapinaaGreatDoor.Tn
open Go.RowKit Go.Maps
structure Rs (w : World) (b : Nat) (sv : Value) (L : List Tm) : Prop where
  blk : w.heap[b]? = some (.cells #[sv] 158 (0, 0))
  row : TmRow 0 w sv L
  good : Good L
  fit : ∀ t ∈ L, t.ok
def rfoot (b : Nat) (sv : Value) : List Nat := b :: sv.ownBlock.toList
theorem mem_rfoot {b : Nat} {sv : Value} {x : Nat} : x ∈ rfoot b sv ↔ x = b ∨ sv.ownBlock = some x := by
  simp [rfoot, eq_comm]
theorem Rs.lt {w : World} {b : Nat} {sv : Value} {L : List Tm} (h : Rs w b sv L) : ∀ x ∈ rfoot b sv, x < w.heap.size := by
  intro x hx
  rcases mem_rfoot.1 hx with rfl | hx
  · exact lt_of_blk h.blk
  · exact (h.row.lt x hx).2
theorem Rs.apart {w : World} {b : Nat} {sv : Value} {L : List Tm} (h : Rs w b sv L) : sv.ownBlock ≠ some b := by
  intro c
  obtain ⟨cur, hc⟩ := h.row.block c
  rw [h.blk] at hc; simp at hc
theorem Rs.keep {w w' : World} {b : Nat} {sv : Value} {L : List Tm} {S : List Nat} (h : Rs w b sv L) (hf : Fr S w w') (hd : ∀ x ∈ rfoot b sv, x ∉ S) : Rs w' b sv L :=
  ⟨by rw [hf.block b (lt_of_blk h.blk) (hd b (by simp [rfoot]))]; exact h.blk,
   h.row.fr hf (fun k hk => hd k (mem_rfoot.2 (Or.inr hk))), h.good, h.fit⟩
theorem Rs.new {w w' : World} {b : Nat} {sv : Value} {L : List Tm} (h : Rs w b sv L) (hf : Fr [] w w') : Rs w' b sv L := h.keep hf (by simp)
theorem Rs.bw {w w' : World} {b : Nat} {sv : Value} {L : List Tm} (h : Rs w b sv L) (hb : Below w.heap.size w w') : Rs w' b sv L := h.new (Fr.ofBelow hb)
theorem Rs.cells {w : World} {b : Nat} {sv : Value} {L : List Tm} (h : Rs w b sv L) : w.cell? ⟨b, 0, none⟩ = some sv ∧ w.frozen? ⟨b, 0, none⟩ = false := by
  refine ⟨?_, ?_⟩ <;> simp [World.cell?, World.frozen?, h.blk]
theorem Rs.len {w : World} {b : Nat} {sv : Value} {L : List Tm} (h : Rs w b sv L) : L.length ≤ 1048576 := h.good.len
theorem Rs.form {w : World} {b : Nat} {sv : Value} {L : List Tm} (h : Rs w b sv L) : ∃ a cap, sv = .slice a L.length cap := by
  rcases h.row.form with ⟨rfl, rfl⟩ | ⟨g, cap, hv, _⟩
  · exact ⟨none, 0, rfl⟩
  · exact ⟨_, cap, hv⟩
structure RStep (w w' : World) (b : Nat) (sv sv' : Value) (L' : List Tm) : Prop where
  st : Rs w' b sv' L'
  fr : Fr (rfoot b sv) w w'
  place : ∀ k, sv'.ownBlock = some k → sv.ownBlock = some k ∨ w.heap.size ≤ k
theorem RStep.refl {w : World} {b : Nat} {sv : Value} {L : List Tm} (h : Rs w b sv L) : RStep w w b sv sv L := ⟨h, Fr.refl _ _, fun _ hk => Or.inl hk⟩
theorem RStep.same {w w' : World} {b : Nat} {sv : Value} {L : List Tm} (h : Rs w b sv L) (hb : Below w.heap.size w w') : RStep w w' b sv sv L :=
  ⟨h.bw hb, (Fr.ofBelow hb).mono (fun _ _ c => by cases c), fun _ hk => Or.inl hk⟩
theorem RStep.trans {w w1 w2 : World} {b : Nat} {sv sv1 sv2 : Value} {L1 L2 : List Tm} (h : RStep w w1 b sv sv1 L1) (k : RStep w1 w2 b sv1 sv2 L2) : RStep w w2 b sv sv2 L2 := by
  refine ⟨k.st, h.fr.trans k.fr (fun _ _ c => c) (fun x hx c => ?_), fun x hx => ?_⟩
  · rcases mem_rfoot.1 c with c | c
    · exact mem_rfoot.2 (Or.inl c)
    · rcases h.place x c with c | c
      · exact mem_rfoot.2 (Or.inr c)
      · omega
  · rcases k.place x hx with c | c
    · exact h.place x c
    · exact Or.inr (Nat.le_trans h.fr.size c)
theorem RStep.before {w w0 w1 : World} {b : Nat} {sv sv1 : Value} {L1 : List Tm} (h : Below w.heap.size w w0) (k : RStep w0 w1 b sv sv1 L1) : RStep w w1 b sv sv1 L1 :=
  ⟨k.st, (Fr.ofBelow h).trans k.fr (fun _ _ c => by cases c) (fun _ _ c => c), fun x hx => (k.place x hx).imp id (fun c => Nat.le_trans h.size c)⟩
theorem RStep.base {w w1 : World} {B b : Nat} {sv sv1 : Value} {L1 : List Tm} (k : RStep w w1 b sv sv1 L1) (hB : B ≤ w.heap.size) (h : ∀ x ∈ rfoot b sv, B ≤ x) : ∀ x ∈ rfoot b sv1, B ≤ x := by
  intro x hx
  rcases mem_rfoot.1 hx with hx | hx
  · exact h x (mem_rfoot.2 (Or.inl hx))
  · rcases k.place x hx with c | c
    · exact h x (mem_rfoot.2 (Or.inr c))
    · omega
theorem Rs.appended {w w0 w1 : World} {b : Nat} {sv sv' : Value} {N : Nat} {L : List Tm} {t : Tm} (h : Rs w b sv L) (hN : N = L.length) (h0 : Fr [] w w0) (hown : w1.ownsRow 0 64 4 sv' (N + 1) (L.flatMap tmC ++ tmC t)) (hg : w0.grownBy w1 sv.ownBlock)
    (hat : sv'.ownBlock = sv.ownBlock ∨ sv'.ownBlock = some w0.heap.size) (hG : Good (L ++ [t])) (hf : ∀ u ∈ L ++ [t], u.ok) :
    w1.cell? ⟨b, 0, none⟩ = some sv ∧ w1.frozen? ⟨b, 0, none⟩ = false ∧ RStep w (w1.setCell ⟨b, 0, none⟩ sv') b sv sv' (L ++ [t]) ∧ (w1.setCell ⟨b, 0, none⟩ sv').cell? ⟨b, 0, none⟩ = some sv' ∧ (∃ g cap, sv' = .slice (some ⟨g, 0, none⟩) (N + 1) cap) := by
  subst hN
  have a2 := h.apart
  have s0 := h.new h0
  have hb1 : w1.heap[b]? = some (.cells #[sv] 158 (0, 0)) := by
    rw [hg.block b (lt_of_blk s0.blk) (fun c => a2 c.symm)]; exact s0.blk
  have hne : sv'.ownBlock ≠ some b := by
    rcases hat with c | c
    · rw [c]; exact a2
    · rw [c]; intro e; have := lt_of_blk s0.blk; simp at e; omega
  have hbs : (w1.setCell ⟨b, 0, none⟩ sv').heap[b]? = some (.cells #[sv'] 158 (0, 0)) := by simp [World.setCell, Array.getElem?_modify, hb1]
  refine ⟨by simp [World.cell?, hb1], by simp [World.frozen?, hb1], ⟨⟨hbs, ?_, hG, hf⟩, ?_, ?_⟩, by simp [World.cell?, hbs], ?_⟩
  · have hr : TmRow 0 w1 sv' (L ++ [t]) := by unfold TmRow; rw [flat_snoc, List.length_append]; exact hown
    exact hr.keep fun k hk => Below.heap_setCell _ _ _ _ (fun c => hne (by rw [hk, c]))
  · have hF : Fr (rfoot b sv) w w1 := h0.trans (Fr.ofGrown hg) (fun _ _ c => by cases c) (fun x _ c => mem_rfoot.2 (Or.inr (by simpa using c)))
    exact hF.setCell (Or.inr (by simp [rfoot])) _
  · intro k hk
    rcases hat with c | c
    · left; rw [← c]; exact hk
    · right; rw [c] at hk; simp at hk; have := h0.size; omega
  · rcases hown.2 with ⟨_, h⟩ | ⟨g, cap, _, h, _⟩
    · omega
    · exact ⟨g, cap, h⟩
theorem rnew_any (w : World) :
    Calls Tryz.prog 31 #[] w fun e w' => ∃ b, e = .returned (.pointer (some ⟨b, 0, none⟩)) ∧ Rs w' b (.slice none 0 0) [] ∧ (∀ x ∈ rfoot b (.slice none 0 0), w.heap.size ≤ x) ∧ Below w.heap.size w w' := by
  go_enter Tryz.func31, Tryz.ntmps31
  go_wp2
  go_ret
  refine ⟨w.heap.size, rfl, ⟨heap_alloc_new _ _, TmRow.nil _ _, good_nil, by simp⟩, ?_, bw_alloc _ _⟩
  intro x hx
  rcases mem_rfoot.1 hx with rfl | hx
  · omega
  · cases hx
theorem there_any (b : Nat) (sv : Value) (L : List Tm) (x : Int) (w : World) (h : Rs w b sv L) :
    Calls Tryz.prog 129 #[.pointer (some ⟨b, 0, none⟩), .int .i64 x] w fun e w' => e = .returned (.bool (thr L.length x)) ∧ w' = w := by
  obtain ⟨c0, _⟩ := h.cells
  obtain ⟨a, cap, rfl⟩ := h.form
  have hl : (L.length : Int) ≤ 1048577 := by have := h.len; omega
  clear h
  by_cases h1 : 1 ≤ x
  · have e : thr L.length x = decide (x ≤ (L.length : Int)) := by simp [thr, h1]
    rw [e]
    go_enter Tryz.func129, Tryz.ntmps129
    go_wp2
    go_ret
    exact ⟨rfl, rfl⟩
  · have e : thr L.length x = false := by simp [thr, h1]
    rw [e]
    clear e
    go_enter Tryz.func129, Tryz.ntmps129
    go_wp2
    go_ret
    exact ⟨rfl, rfl⟩
set_option maxHeartbeats 1000000 in
theorem rmay_1 (p : Value) (N : Nat) (n x y : Int) (w : World) (KH : ∀ z, Calls Tryz.prog 129 #[p, .int .i64 z] (w.alloc (.cells #[.int .u8 1, .int .i64 n, .int .i64 x, .int .i64 y] 64)) fun e w' => e = .returned (.bool (thr N z)) ∧ w' = (w.alloc (.cells #[.int .u8 1, .int .i64 n, .int .i64 x, .int .i64 y] 64))) :
    Calls Tryz.prog 84 #[p, .agg #[.int .u8 1, .int .i64 n, .int .i64 x, .int .i64 y]] w fun e w' => e = .returned (.bool (may N ⟨1, n, x, y⟩)) ∧ Below w.heap.size w w' := by
  by_cases hn : 0 ≤ n
  · by_cases hx : x = 0
    · subst hx
      by_cases hy : y = 0
      · subst hy
        have e : may N ⟨1, n, 0, 0⟩ = true := by simp [may, hn]
        rw [e]
        clear e KH
        go_enter Tryz.func84, Tryz.ntmps84
        go_wp2_with fail
        go_ret
        exact ⟨rfl, (Below.refl _ _).alloc (Nat.le_refl _) _⟩
      · have zy : (y == 0) = false := by simpa using hy
        have e : may N ⟨1, n, 0, y⟩ = false := by simp [may, hn, hy]
        rw [e]
        clear e KH
        go_enter Tryz.func84, Tryz.ntmps84
        go_wp2_with fail
        go_ret
        exact ⟨rfl, (Below.refl _ _).alloc (Nat.le_refl _) _⟩
    · have zx : (x == 0) = false := by simpa using hx
      have e : may N ⟨1, n, x, y⟩ = false := by simp [may, hn, hx]
      rw [e]
      clear e KH
      go_enter Tryz.func84, Tryz.ntmps84
      go_wp2_with fail
      go_ret
      exact ⟨rfl, (Below.refl _ _).alloc (Nat.le_refl _) _⟩
  · have e : may N ⟨1, n, x, y⟩ = false := by simp [may, hn]
    rw [e]
    clear e KH
    go_enter Tryz.func84, Tryz.ntmps84
    go_wp2_with fail
    go_ret
    exact ⟨rfl, (Below.refl _ _).alloc (Nat.le_refl _) _⟩
set_option maxHeartbeats 1000000 in
theorem rmay_2 (p : Value) (N : Nat) (n x y : Int) (w : World) (KH : ∀ z, Calls Tryz.prog 129 #[p, .int .i64 z] (w.alloc (.cells #[.int .u8 2, .int .i64 n, .int .i64 x, .int .i64 y] 64)) fun e w' => e = .returned (.bool (thr N z)) ∧ w' = (w.alloc (.cells #[.int .u8 2, .int .i64 n, .int .i64 x, .int .i64 y] 64))) :
    Calls Tryz.prog 84 #[p, .agg #[.int .u8 2, .int .i64 n, .int .i64 x, .int .i64 y]] w fun e w' => e = .returned (.bool (may N ⟨2, n, x, y⟩)) ∧ Below w.heap.size w w' := by
  by_cases hx : x = 0
  · subst hx
    by_cases hy : y = 0
    · subst hy
      have e : may N ⟨2, n, 0, 0⟩ = true := by simp [may]
      rw [e]
      clear e KH
      go_enter Tryz.func84, Tryz.ntmps84
      go_wp2_with fail
      go_ret
      exact ⟨rfl, (Below.refl _ _).alloc (Nat.le_refl _) _⟩
    · have zy : (y == 0) = false := by simpa using hy
      have e : may N ⟨2, n, 0, y⟩ = false := by simp [may, hy]
      rw [e]
      clear e KH
      go_enter Tryz.func84, Tryz.ntmps84
      go_wp2_with fail
      go_ret
      exact ⟨rfl, (Below.refl _ _).alloc (Nat.le_refl _) _⟩
  · have zx : (x == 0) = false := by simpa using hx
    have e : may N ⟨2, n, x, y⟩ = false := by simp [may, hx]
    rw [e]
    clear e KH
    go_enter Tryz.func84, Tryz.ntmps84
    go_wp2_with fail
    go_ret
    exact ⟨rfl, (Below.refl _ _).alloc (Nat.le_refl _) _⟩
set_option maxHeartbeats 1000000 in
theorem rmay_3 (p : Value) (N : Nat) (n x y : Int) (w : World) (KH : ∀ z, Calls Tryz.prog 129 #[p, .int .i64 z] (w.alloc (.cells #[.int .u8 3, .int .i64 n, .int .i64 x, .int .i64 y] 64)) fun e w' => e = .returned (.bool (thr N z)) ∧ w' = (w.alloc (.cells #[.int .u8 3, .int .i64 n, .int .i64 x, .int .i64 y] 64))) :
    Calls Tryz.prog 84 #[p, .agg #[.int .u8 3, .int .i64 n, .int .i64 x, .int .i64 y]] w fun e w' => e = .returned (.bool (may N ⟨3, n, x, y⟩)) ∧ Below w.heap.size w w' := by
  by_cases hn : n = 0
  · subst hn
    cases hx : thr N x
    · have e : may N ⟨3, 0, x, y⟩ = false := by simp [may, hx]
      rw [e]
      have Kx := KH x
      rw [hx] at Kx
      clear e KH
      go_enter Tryz.func84, Tryz.ntmps84
      go_wp2_with fail
      refine Kx.mono ?_
      rintro e w1 ⟨rfl, rfl⟩
      go_wp2_with fail
      go_ret
      exact ⟨rfl, (Below.refl _ _).alloc (Nat.le_refl _) _⟩
    · cases hy : thr N y
      · have e : may N ⟨3, 0, x, y⟩ = false := by simp [may, hx, hy]
        rw [e]
        have Kx := KH x
        rw [hx] at Kx
        have Ky := KH y
        rw [hy] at Ky
        clear e KH
        go_enter Tryz.func84, Tryz.ntmps84
        go_wp2_with fail
        refine Kx.mono ?_
        rintro e w1 ⟨rfl, rfl⟩
        go_wp2_with fail
        refine Ky.mono ?_
        rintro e w1 ⟨rfl, rfl⟩
        go_wp2_with fail
        go_ret
        exact ⟨rfl, (Below.refl _ _).alloc (Nat.le_refl _) _⟩
      · have e : may N ⟨3, 0, x, y⟩ = true := by simp [may, hx, hy]
        rw [e]
        have Kx := KH x
        rw [hx] at Kx
        have Ky := KH y
        rw [hy] at Ky
        clear e KH
        go_enter Tryz.func84, Tryz.ntmps84
        go_wp2_with fail
        refine Kx.mono ?_
        rintro e w1 ⟨rfl, rfl⟩
        go_wp2_with fail
        refine Ky.mono ?_
        rintro e w1 ⟨rfl, rfl⟩
        go_wp2_with fail
        go_ret
        exact ⟨rfl, (Below.refl _ _).alloc (Nat.le_refl _) _⟩
  · have zn : (n == 0) = false := by simpa using hn
    have e : may N ⟨3, n, x, y⟩ = false := by simp [may, hn]
    rw [e]
    clear e KH
    go_enter Tryz.func84, Tryz.ntmps84
    go_wp2_with fail
    go_ret
    exact ⟨rfl, (Below.refl _ _).alloc (Nat.le_refl _) _⟩
set_option maxHeartbeats 1000000 in
theorem rmay_6 (p : Value) (N : Nat) (n x y : Int) (w : World) (KH : ∀ z, Calls Tryz.prog 129 #[p, .int .i64 z] (w.alloc (.cells #[.int .u8 6, .int .i64 n, .int .i64 x, .int .i64 y] 64)) fun e w' => e = .returned (.bool (thr N z)) ∧ w' = (w.alloc (.cells #[.int .u8 6, .int .i64 n, .int .i64 x, .int .i64 y] 64))) :
    Calls Tryz.prog 84 #[p, .agg #[.int .u8 6, .int .i64 n, .int .i64 x, .int .i64 y]] w fun e w' => e = .returned (.bool (may N ⟨6, n, x, y⟩)) ∧ Below w.heap.size w w' := by
  by_cases hn : n = 0
  · subst hn
    cases hx : thr N x
    · have e : may N ⟨6, 0, x, y⟩ = false := by simp [may, hx]
      rw [e]
      have Kx := KH x
      rw [hx] at Kx
      clear e KH
      go_enter Tryz.func84, Tryz.ntmps84
      go_wp2_with fail
      refine Kx.mono ?_
      rintro e w1 ⟨rfl, rfl⟩
      go_wp2_with fail
      go_ret
      exact ⟨rfl, (Below.refl _ _).alloc (Nat.le_refl _) _⟩
    · cases hy : thr N y
      · have e : may N ⟨6, 0, x, y⟩ = false := by simp [may, hx, hy]
        rw [e]
        have Kx := KH x
        rw [hx] at Kx
        have Ky := KH y
        rw [hy] at Ky
        clear e KH
        go_enter Tryz.func84, Tryz.ntmps84
        go_wp2_with fail
        refine Kx.mono ?_
        rintro e w1 ⟨rfl, rfl⟩
        go_wp2_with fail
        refine Ky.mono ?_
        rintro e w1 ⟨rfl, rfl⟩
        go_wp2_with fail
        go_ret
        exact ⟨rfl, (Below.refl _ _).alloc (Nat.le_refl _) _⟩
      · have e : may N ⟨6, 0, x, y⟩ = true := by simp [may, hx, hy]
        rw [e]
        have Kx := KH x
        rw [hx] at Kx
        have Ky := KH y
        rw [hy] at Ky
        clear e KH
        go_enter Tryz.func84, Tryz.ntmps84
        go_wp2_with fail
        refine Kx.mono ?_
        rintro e w1 ⟨rfl, rfl⟩
        go_wp2_with fail
        refine Ky.mono ?_
        rintro e w1 ⟨rfl, rfl⟩
        go_wp2_with fail
        go_ret
        exact ⟨rfl, (Below.refl _ _).alloc (Nat.le_refl _) _⟩
  · have zn : (n == 0) = false := by simpa using hn
    have e : may N ⟨6, n, x, y⟩ = false := by simp [may, hn]
    rw [e]
    clear e KH
    go_enter Tryz.func84, Tryz.ntmps84
    go_wp2_with fail
    go_ret
    exact ⟨rfl, (Below.refl _ _).alloc (Nat.le_refl _) _⟩
set_option maxHeartbeats 1000000 in
theorem rmay_4 (p : Value) (N : Nat) (n x y : Int) (w : World) (KH : ∀ z, Calls Tryz.prog 129 #[p, .int .i64 z] (w.alloc (.cells #[.int .u8 4, .int .i64 n, .int .i64 x, .int .i64 y] 64)) fun e w' => e = .returned (.bool (thr N z)) ∧ w' = (w.alloc (.cells #[.int .u8 4, .int .i64 n, .int .i64 x, .int .i64 y] 64))) :
    Calls Tryz.prog 84 #[p, .agg #[.int .u8 4, .int .i64 n, .int .i64 x, .int .i64 y]] w fun e w' => e = .returned (.bool (may N ⟨4, n, x, y⟩)) ∧ Below w.heap.size w w' := by
  by_cases hn : 0 ≤ n
  · cases hx : thr N x
    · have e : may N ⟨4, n, x, y⟩ = false := by simp [may, hn, hx]
      rw [e]
      have Kx := KH x
      rw [hx] at Kx
      clear e KH
      go_enter Tryz.func84, Tryz.ntmps84
      go_wp2_with fail
      refine Kx.mono ?_
      rintro e w1 ⟨rfl, rfl⟩
      go_wp2_with fail
      go_ret
      exact ⟨rfl, (Below.refl _ _).alloc (Nat.le_refl _) _⟩
    · by_cases hz : y = 0
      · subst hz
        have e : may N ⟨4, n, x, 0⟩ = true := by simp [may, hn, hx]
        rw [e]
        have Kx := KH x
        rw [hx] at Kx
        clear e KH
        go_enter Tryz.func84, Tryz.ntmps84
        go_wp2_with fail
        refine Kx.mono ?_
        rintro e w1 ⟨rfl, rfl⟩
        go_wp2_with fail
        go_ret
        exact ⟨rfl, (Below.refl _ _).alloc (Nat.le_refl _) _⟩
      · have zy : (y == 0) = false := by simpa using hz
        cases hy : thr N y
        · have e : may N ⟨4, n, x, y⟩ = false := by simp [may, hn, hx, hz, hy]
          rw [e]
          have Kx := KH x
          rw [hx] at Kx
          have Ky := KH y
          rw [hy] at Ky
          clear e KH
          go_enter Tryz.func84, Tryz.ntmps84
          go_wp2_with fail
          refine Kx.mono ?_
          rintro e w1 ⟨rfl, rfl⟩
          go_wp2_with fail
          refine Ky.mono ?_
          rintro e w1 ⟨rfl, rfl⟩
          go_wp2_with fail
          go_ret
          exact ⟨rfl, (Below.refl _ _).alloc (Nat.le_refl _) _⟩
        · have e : may N ⟨4, n, x, y⟩ = true := by simp [may, hn, hx, hz, hy]
          rw [e]
          have Kx := KH x
          rw [hx] at Kx
          have Ky := KH y
          rw [hy] at Ky
          clear e KH
          go_enter Tryz.func84, Tryz.ntmps84
          go_wp2_with fail
          refine Kx.mono ?_
          rintro e w1 ⟨rfl, rfl⟩
          go_wp2_with fail
          refine Ky.mono ?_
          rintro e w1 ⟨rfl, rfl⟩
          go_wp2_with fail
          go_ret
          exact ⟨rfl, (Below.refl _ _).alloc (Nat.le_refl _) _⟩
  · have e : may N ⟨4, n, x, y⟩ = false := by simp [may, hn]
    rw [e]
    clear e KH
    go_enter Tryz.func84, Tryz.ntmps84
    go_wp2_with fail
    go_ret
    exact ⟨rfl, (Below.refl _ _).alloc (Nat.le_refl _) _⟩
set_option maxHeartbeats 1000000 in
theorem rmay_5 (p : Value) (N : Nat) (n x y : Int) (w : World) (KH : ∀ z, Calls Tryz.prog 129 #[p, .int .i64 z] (w.alloc (.cells #[.int .u8 5, .int .i64 n, .int .i64 x, .int .i64 y] 64)) fun e w' => e = .returned (.bool (thr N z)) ∧ w' = (w.alloc (.cells #[.int .u8 5, .int .i64 n, .int .i64 x, .int .i64 y] 64))) :
    Calls Tryz.prog 84 #[p, .agg #[.int .u8 5, .int .i64 n, .int .i64 x, .int .i64 y]] w fun e w' => e = .returned (.bool (may N ⟨5, n, x, y⟩)) ∧ Below w.heap.size w w' := by
  by_cases hn : n = 0
  · subst hn
    cases hx : thr N x
    · have e : may N ⟨5, 0, x, y⟩ = false := by simp [may, hx]
      rw [e]
      have Kx := KH x
      rw [hx] at Kx
      clear e KH
      go_enter Tryz.func84, Tryz.ntmps84
      go_wp2_with fail
      refine Kx.mono ?_
      rintro e w1 ⟨rfl, rfl⟩
      go_wp2_with fail
      go_ret
      exact ⟨rfl, (Below.refl _ _).alloc (Nat.le_refl _) _⟩
    · by_cases hy : y = 0
      · subst hy
        have e : may N ⟨5, 0, x, 0⟩ = true := by simp [may, hx]
        rw [e]
        have Kx := KH x
        rw [hx] at Kx
        clear e KH
        go_enter Tryz.func84, Tryz.ntmps84
        go_wp2_with fail
        refine Kx.mono ?_
        rintro e w1 ⟨rfl, rfl⟩
        go_wp2_with fail
        go_ret
        exact ⟨rfl, (Below.refl _ _).alloc (Nat.le_refl _) _⟩
      · have zy : (y == 0) = false := by simpa using hy
        have e : may N ⟨5, 0, x, y⟩ = false := by simp [may, hx, hy]
        rw [e]
        have Kx := KH x
        rw [hx] at Kx
        clear e KH
        go_enter Tryz.func84, Tryz.ntmps84
        go_wp2_with fail
        refine Kx.mono ?_
        rintro e w1 ⟨rfl, rfl⟩
        go_wp2_with fail
        go_ret
        exact ⟨rfl, (Below.refl _ _).alloc (Nat.le_refl _) _⟩
  · have zn : (n == 0) = false := by simpa using hn
    have e : may N ⟨5, n, x, y⟩ = false := by simp [may, hn]
    rw [e]
    clear e KH
    go_enter Tryz.func84, Tryz.ntmps84
    go_wp2_with fail
    go_ret
    exact ⟨rfl, (Below.refl _ _).alloc (Nat.le_refl _) _⟩
set_option maxHeartbeats 1000000 in
theorem rmay_7 (p : Value) (N : Nat) (n x y : Int) (w : World) (KH : ∀ z, Calls Tryz.prog 129 #[p, .int .i64 z] (w.alloc (.cells #[.int .u8 7, .int .i64 n, .int .i64 x, .int .i64 y] 64)) fun e w' => e = .returned (.bool (thr N z)) ∧ w' = (w.alloc (.cells #[.int .u8 7, .int .i64 n, .int .i64 x, .int .i64 y] 64))) :
    Calls Tryz.prog 84 #[p, .agg #[.int .u8 7, .int .i64 n, .int .i64 x, .int .i64 y]] w fun e w' => e = .returned (.bool (may N ⟨7, n, x, y⟩)) ∧ Below w.heap.size w w' := by
  by_cases hn : n = 0
  · subst hn
    cases hx : thr N x
    · have e : may N ⟨7, 0, x, y⟩ = false := by simp [may, hx]
      rw [e]
      have Kx := KH x
      rw [hx] at Kx
      clear e KH
      go_enter Tryz.func84, Tryz.ntmps84
      go_wp2_with fail
      refine Kx.mono ?_
      rintro e w1 ⟨rfl, rfl⟩
      go_wp2_with fail
      go_ret
      exact ⟨rfl, (Below.refl _ _).alloc (Nat.le_refl _) _⟩
    · by_cases hy : y = 0
      · subst hy
        have e : may N ⟨7, 0, x, 0⟩ = true := by simp [may, hx]
        rw [e]
        have Kx := KH x
        rw [hx] at Kx
        clear e KH
        go_enter Tryz.func84, Tryz.ntmps84
        go_wp2_with fail
        refine Kx.mono ?_
        rintro e w1 ⟨rfl, rfl⟩
        go_wp2_with fail
        go_ret
        exact ⟨rfl, (Below.refl _ _).alloc (Nat.le_refl _) _⟩
      · have zy : (y == 0) = false := by simpa using hy
        have e : may N ⟨7, 0, x, y⟩ = false := by simp [may, hx, hy]
        rw [e]
        have Kx := KH x
        rw [hx] at Kx
        clear e KH
        go_enter Tryz.func84, Tryz.ntmps84
        go_wp2_with fail
        refine Kx.mono ?_
        rintro e w1 ⟨rfl, rfl⟩
        go_wp2_with fail
        go_ret
        exact ⟨rfl, (Below.refl _ _).alloc (Nat.le_refl _) _⟩
  · have zn : (n == 0) = false := by simpa using hn
    have e : may N ⟨7, n, x, y⟩ = false := by simp [may, hn]
    rw [e]
    clear e KH
    go_enter Tryz.func84, Tryz.ntmps84
    go_wp2_with fail
    go_ret
    exact ⟨rfl, (Below.refl _ _).alloc (Nat.le_refl _) _⟩
set_option maxHeartbeats 1000000 in
theorem rmay_of (p : Value) (N : Nat) (k n x y : Int) (w : World) (KH : ∀ z, Calls Tryz.prog 129 #[p, .int .i64 z] (w.alloc (.cells #[.int .u8 k, .int .i64 n, .int .i64 x, .int .i64 y] 64)) fun e w' => e = .returned (.bool (thr N z)) ∧ w' = (w.alloc (.cells #[.int .u8 k, .int .i64 n, .int .i64 x, .int .i64 y] 64))) :
    Calls Tryz.prog 84 #[p, .agg #[.int .u8 k, .int .i64 n, .int .i64 x, .int .i64 y]] w fun e w' => e = .returned (.bool (may N ⟨k, n, x, y⟩)) ∧ Below w.heap.size w w' := by
  by_cases h1 : k = 1
  · subst h1
    exact rmay_1 p N n x y w KH
  by_cases h2 : k = 2
  · subst h2
    exact rmay_2 p N n x y w KH
  by_cases h3 : k = 3
  · subst h3
    exact rmay_3 p N n x y w KH
  by_cases h6 : k = 6
  · subst h6
    exact rmay_6 p N n x y w KH
  by_cases h4 : k = 4
  · subst h4
    exact rmay_4 p N n x y w KH
  by_cases h5 : k = 5
  · subst h5
    exact rmay_5 p N n x y w KH
  by_cases h7 : k = 7
  · subst h7
    exact rmay_7 p N n x y w KH
  have e : may N ⟨k, n, x, y⟩ = false := by simp [may, h1, h2, h3, h6, h4, h5, h7]
  rw [e]
  clear e KH
  have z1 : (k == 1) = false := by simpa using h1
  have z2 : (k == 2) = false := by simpa using h2
  have z3 : (k == 3) = false := by simpa using h3
  have z6 : (k == 6) = false := by simpa using h6
  have z4 : (k == 4) = false := by simpa using h4
  have z5 : (k == 5) = false := by simpa using h5
  have z7 : (k == 7) = false := by simpa using h7
  go_enter Tryz.func84, Tryz.ntmps84
  go_wp2
  go_ret
  exact ⟨rfl, (Below.refl _ _).alloc (Nat.le_refl _) _⟩
theorem rmay_any (b : Nat) (sv : Value) (L : List Tm) (k n x y : Int) (w : World) (h : Rs w b sv L) :
    Calls Tryz.prog 84 #[.pointer (some ⟨b, 0, none⟩), .agg #[.int .u8 k, .int .i64 n, .int .i64 x, .int .i64 y]] w fun e w' => e = .returned (.bool (may L.length ⟨k, n, x, y⟩)) ∧ Below w.heap.size w w' :=
  rmay_of _ _ k n x y w fun z => there_any b sv L z _ (h.bw ((Below.refl w.heap.size w).alloc (Nat.le_refl _) _))
end Go.Proofs.YtpcpcgagiapinaaGreatDoor.Tn

/- The contract of Make of the document's store. -/
namespace Go.Proofs.YtpcpcgagiapinaaGreatDoor.Tn
open Go.RowKit Go.Maps
theorem num_at {L : List Tm} (h : L.Nodup) {i : Nat} {t : Tm} (hi : L[i]? = some t) : num L t = i + 1 := by
  have hm := List.mem_of_getElem? hi
  obtain ⟨l1, g1⟩ := List.getElem?_eq_some_iff.1 hi
  have q := num_get hm
  obtain ⟨l2, g2⟩ := List.getElem?_eq_some_iff.1 q.1
  have := (List.getElem_inj h).1 (g1.trans g2.symm)
  omega
set_option maxRecDepth 100000 in
set_option maxHeartbeats 8000000 in
theorem rmake_any (b : Nat) (sv : Value) (L : List Tm) (t : Tm) (w : World) (h : Rs w b sv L) (ht : t.ok) :
    Calls Tryz.prog 32 #[.pointer (some ⟨b, 0, none⟩), .agg #[.int .u8 t.kd, .int .i64 t.n, .int .i64 t.a, .int .i64 t.b]] w fun e w' => e = .returned (.tuple #[.int .i64 (mkN L t : Nat), .int .i64 (mkE L t)]) ∧ ∃ sv', RStep w w' b sv sv' (mkL L t) := by
  obtain ⟨k, n, x, y⟩ := t
  obtain ⟨w0, hw0⟩ : ∃ w0, w0 = w.alloc (.cells #[.int .u8 k, .int .i64 n, .int .i64 x, .int .i64 y] 64) := ⟨_, rfl⟩
  have hb0 : Below w.heap.size w w0 := by rw [hw0]; exact (Below.refl _ _).alloc (Nat.le_refl _) _
  have h0 := h.bw hb0
  have K2 := rmay_any b sv L k n x y w0 h0
  have hsz : w0.heap.size = w.heap.size + 1 := by rw [hw0]; simp
  have bx : TAt w0 w.heap.size 0 ⟨k, n, x, y⟩ := by
    rw [hw0]; unfold TAt World.cell?; simp only [heap_alloc_new]; exact ⟨rfl, rfl, rfl, rfl⟩
  cases hm : may L.length ⟨k, n, x, y⟩
  · have e1 : mkN L ⟨k, n, x, y⟩ = 0 := by simp [mkN, hm]
    have e2 : mkE L ⟨k, n, x, y⟩ = 1 := by simp [mkE, hm]
    have e3 : mkL L ⟨k, n, x, y⟩ = L := by simp [mkL, hm]
    rw [e1, e2, e3]
    rw [hm] at K2
    rw [hw0] at K2 hb0
    clear e1 e2 e3 h0 hm hsz bx hw0
    go_enter Tryz.func32, Tryz.ntmps32
    go_wp2_with fail
    refine K2.mono ?_
    rintro e w1 ⟨rfl, hb1⟩
    go_wp2
    go_ret2
    exact ⟨rfl, sv, RStep.same h (bw_tr hb0 hb1)⟩
  · rw [hm] at K2
    have K2' : Calls Tryz.prog 84 #[.pointer (some ⟨b, 0, none⟩), .agg #[.int .u8 k, .int .i64 n, .int .i64 x, .int .i64 y]] w0 fun e w1 => e = .returned (.bool true) ∧ Below w.heap.size w w1 ∧ Rs w1 b sv L ∧ w.heap.size < w1.heap.size ∧ TAt w1 w.heap.size 0 ⟨k, n, x, y⟩ := by
      refine K2.mono ?_
      rintro e w1 ⟨rfl, hb1⟩
      exact ⟨rfl, bw_tr hb0 hb1, h0.bw hb1, by have := hb1.size; omega, bx.keep (hb1.block _ (by omega))⟩
    rw [hw0] at K2'
    clear K2 h0 hsz bx hb0 hw0
    obtain ⟨i0, hi, hz0, hz1, hz2⟩ := info_parts Tryz.infoTerm
    obtain ⟨sa, cap, rfl⟩ := h.form
    obtain ⟨N, hN⟩ : ∃ N, N = L.length := ⟨_, rfl⟩
    have hNb : (N : Int) ≤ 1048577 := by have := h.len; omega
    have HH := hide (And.intro h (And.intro ht (And.intro hm hN)))
    rw [← hN] at K2'
    clear h ht hm
    go_enter Tryz.func32, Tryz.ntmps32
    rw [← hN]
    clear hN
    go_wp2_with fail
    refine K2'.mono ?_
    rintro e w1 ⟨rfl, hb1, h1, hs1, hT1⟩
    have HS : Hid (Rs w1 b (.slice sa N cap) L ∧ TAt w1 w.heap.size 0 ⟨k, n, x, y⟩ ∧ Below w.heap.size w w1 ∧ w.heap.size < w1.heap.size ∧ ∀ j, j < 0 → L[j]? ≠ some ⟨k, n, x, y⟩) := ⟨h1, hT1, hb1, hs1, fun j hj => by omega⟩
    clear hb1 h1 hs1 hT1 K2'
    go_wp2_with fail
    go_loopw [6] (fun iv wr => ∃ i : Nat, i ≤ N ∧ iv = .int .i64 (i : Int) ∧ Hid (Rs wr b (.slice sa N cap) L ∧ TAt wr w.heap.size 0 ⟨k, n, x, y⟩ ∧ Below w.heap.size w wr ∧ w.heap.size < wr.heap.size ∧ ∀ j, j < i → L[j]? ≠ some ⟨k, n, x, y⟩)) (fun iv _ => (N - intOf iv).toNat)
    case atStart => exact ⟨0, by omega, rfl, HS⟩
    case round =>
      clear HS
      obtain ⟨i, hiN, rfl, HS⟩ := hrel
      obtain ⟨hR, hT, hB, hs1, hno⟩ := unhide HS
      obtain ⟨c0, f0⟩ := hR.cells
      obtain ⟨t0, t1, t2, t3⟩ := hT
      simp only [Nat.zero_add] at t1 t2 t3
      by_cases hlt : i < N
      · have hi1 : (i : Int) < (N : Int) := by omega
        obtain ⟨u, hu⟩ : ∃ u, L[i]? = some u := ⟨_, List.getElem?_eq_getElem (by rw [← (unhide HH).2.2.2]; exact hlt)⟩
        obtain ⟨g, rfl, hg, s0, s1, s2, s3⟩ : ∃ g, sa = some ⟨g, 0, none⟩ ∧ g < wr.heap.size ∧ TAt wr g (i * 4) u := by
          rcases hR.row.form with ⟨_, c⟩ | ⟨g, cp, hv, _, hg, _⟩
          · rw [c] at hu; simp at hu
          · cases hv; exact ⟨g, rfl, hg, hR.row.at rfl hu⟩
        by_cases hab : u = ⟨k, n, x, y⟩
        · subst hab
          have e1 : mkN L ⟨k, n, x, y⟩ = i + 1 := by
            have hmem := List.mem_of_getElem? hu
            simp [mkN, (unhide HH).2.2.1, hmem, num_at (unhide HH).1.good.nodup hu]
          have e2 : mkE L ⟨k, n, x, y⟩ = 0 := by simp [mkE, (unhide HH).2.2.1, List.mem_of_getElem? hu]
          have e3 : mkL L ⟨k, n, x, y⟩ = L := by simp [mkL, List.mem_of_getElem? hu]
          have HE := hide (And.intro e1 (And.intro e2 e3))
          have HB2 := hide hB
          clear e1 e2 e3 hu hR hB hno HS
          simp only at s0 s1 s2 s3
          go_wp2_with fail
          go_quiet (fail)
          go_wp2_with fail
          go_ret2
          refine ⟨?_, .slice (some ⟨g, 0, none⟩) L.length cap, ?_⟩
          · rw [(unhide HE).1, (unhide HE).2.1]; exact ret_pair (by omega) rfl
          · rw [(unhide HE).2.2, (unhide HH).2.2.2]
            have hh := (unhide HH).1
            exact RStep.same hh (below_drewN (unhide HB2) _)
        · have HR2 : ∀ q, Hid (Rs (wr.drewN q) b (.slice (some ⟨g, 0, none⟩) N cap) L ∧ TAt (wr.drewN q) w.heap.size 0 ⟨k, n, x, y⟩ ∧ Below w.heap.size w (wr.drewN q) ∧ w.heap.size < (wr.drewN q).heap.size ∧ ∀ j, j < i + 1 → L[j]? ≠ some ⟨k, n, x, y⟩) := fun q => by
            refine ⟨hR.bw (below_drewN (Below.refl _ _) _), (unhide HS).2.1, below_drewN hB _, hs1, fun j hj => ?_⟩
            by_cases e : j = i
            · subst e; rw [hu]; intro c; exact hab (Option.some.inj c)
            · exact hno j (by omega)
          have hne := tm_ne hab
          obtain ⟨k', m', a', b'⟩ := u
          simp only at s0 s1 s2 s3 hne
          have HR3 := hide HR2
          clear hab hu hR hB hno HS HR2
          rcases hne with h | ⟨rfl, h⟩ | ⟨rfl, rfl, h⟩ | ⟨rfl, rfl, rfl, h⟩
          all_goals
            have h' := beq_eq_false_iff_ne.2 h
            clear h
            go_wp2_with fail
            go_quiet (fail)
            go_wp2_with fail
            go_roundw
            case rel => exact ⟨i + 1, by omega, by go_num, unhide HR3 _⟩
            case measure => simp only [intOf]; omega
      · obtain rfl : i = N := by omega
        have hnot : (⟨k, n, x, y⟩ : Tm) ∉ L := fun c => by
          obtain ⟨j, hj⟩ := List.getElem?_of_mem c
          refine hno j ?_ hj
          rw [(unhide HH).2.2.2]
          rcases Nat.lt_or_ge j L.length with q | q
          · exact q
          · rw [List.getElem?_eq_none q] at hj; cases hj
        have hL := (unhide HH).2.2.2
        have hm := (unhide HH).2.2.1
        clear hno hlt hiN
        by_cases hlen : i < 1048576
        · have hlen' : L.length < 1048576 := by omega
          have e1 : mkN L ⟨k, n, x, y⟩ = i + 1 := by simp [mkN, hm, hnot, hlen', hL]
          have e2 : mkE L ⟨k, n, x, y⟩ = 0 := by simp [mkE, hm, hnot, hlen']
          have e3 : mkL L ⟨k, n, x, y⟩ = L ++ [⟨k, n, x, y⟩] := by simp [mkL, hm, hnot, hlen']
          have hgood := (unhide HH).1.good.made ⟨k, n, x, y⟩
          rw [e3] at hgood
          have hfit : ∀ u ∈ L ++ [(⟨k, n, x, y⟩ : Tm)], u.ok := fun u hu => by
            rcases List.mem_append.1 hu with c | c
            · exact (unhide HH).1.fit u c
            · simp at c; subst c; exact (unhide HH).2.1
          have HE := hide (And.intro e1 (And.intro e2 (And.intro e3 (And.intro hgood hfit))))
          have hd1 : decide ((1048576 : Int) ≤ (i : Int)) = false := decide_eq_false (by omega)
          have hbw := lt_of_blk hR.blk
          have c0a : (wr.alloc (.cells #[.int .u8 k, .int .i64 n, .int .i64 x, .int .i64 y] 64)).cell? ⟨b, 0, none⟩ = some (.slice sa i cap) := by
            rw [World.cell?_of_block (w := wr) (Below.heap_alloc _ _ _ hbw)]; exact c0
          have hrow : wr.ownsRow 0 64 4 (.slice sa i cap) i (L.flatMap tmC) := by have := hR.row; unfold TmRow at this; rw [← hL] at this; exact this
          have hF : Fr [] wr (wr.drew.alloc (.cells #[.int .u8 k, .int .i64 n, .int .i64 x, .int .i64 y] 64)) := ((Fr.refl [] wr).drew).alloc _
          have hmx : i + 1 ≤ maxLen := by unfold maxLen; omega
          have hby : (i + 1) * 32 ≤ 140737488355328 := by omega
          have HB := hide (And.intro hmx (And.intro hby (And.intro hF (And.intro hrow (And.intro hR (And.intro hB hL))))))
          clear e1 e2 e3 hgood hfit hnot hm hL hlen hlen' hF hmx hby hrow hR hB HS
          go_wp2_with fail
          go_region_law (refine step_append_own rfl (.tmp 41) (.tmp 43) 22 rfl 0 64 i0 (.agg #[.int .u8 0, .int .i64 0, .int .i64 0, .int .i64 0]) 4 32 Tryz.underlying22 hi hz0 hz1 hz2 rfl (by decide) (.slice sa i cap) i (L.flatMap tmC) (by simp [Act.eval]) ((unhide HB).2.2.2.1.drew.alloc _) ⟨wr.heap.size, 0, none⟩ 1 1 [.int .u8 k, .int .i64 n, .int .i64 x, .int .i64 y] (by simp [Act.eval]) rfl (cells_new4 wr.drew _ _ _ _ _) (tmC_one ⟨k, n, x, y⟩) (unhide HB).1 (unhide HB).2.1 (Nat.zero_le _) ?_; intro v' w2 hown' hgrow hat; obtain ⟨k1, k2, k3, k4, ⟨g', cap', rfl⟩⟩ := (unhide HB).2.2.2.2.1.appended (t := ⟨k, n, x, y⟩) (unhide HB).2.2.2.2.2.2 (unhide HB).2.2.1 hown' hgrow hat (unhide HE).2.2.2.1 (unhide HE).2.2.2.2)
          all_goals
            have HK := hide k3
            clear k3 hown' hgrow hat
            go_wp2_with fail
            go_ret2
            refine ⟨?_, .slice (some ⟨g', 0, none⟩) (i + 1) cap', ?_⟩
            · rw [(unhide HE).1, (unhide HE).2.1]; exact ret_pair (by omega) rfl
            · rw [(unhide HE).2.2.1]
              exact (unhide HK).before (unhide HB).2.2.2.2.2.1
        · have hlen' : ¬ L.length < 1048576 := by omega
          have e1 : mkN L ⟨k, n, x, y⟩ = 0 := by simp [mkN, hm, hnot, hlen']
          have e2 : mkE L ⟨k, n, x, y⟩ = 3 := by simp [mkE, hm, hnot, hlen']
          have e3 : mkL L ⟨k, n, x, y⟩ = L := by simp [mkL, hlen']
          have HE := hide (And.intro e1 (And.intro e2 e3))
          have hge : (1048576 : Int) ≤ (i : Int) := by omega
          have HB2 := hide hB
          clear e1 e2 e3 hnot hm hL hlen hlen' hR hB HS
          go_wp2_with fail
          go_ret2
          refine ⟨?_, .slice sa L.length cap, ?_⟩
          · rw [(unhide HE).1, (unhide HE).2.1]; rfl
          · rw [(unhide HE).2.2, (unhide HH).2.2.2]
            have hh := (unhide HH).1
            exact RStep.same hh (unhide HB2)
end Go.Proofs.YtpcpcgagiapinaaGreatDoor.Tn

/- Both stores beside one another, and the contract of Build. -/
namespace Go.Proofs.YtpcpcgagiapinaaGreatDoor.Tn
open Go.RowKit Go.Maps
structure Two (w wr : World) (b : Nat) (sv : Value) (mb rb : Nat) (rv : Value) (L R : List Tm) : Prop where
  st : St wr b sv mb L
  rs : Rs wr rb rv R
  low : ∀ x ∈ foot b sv mb, w.heap.size ≤ x
  rlow : ∀ x ∈ rfoot rb rv, w.heap.size ≤ x
  dis : ∀ x ∈ foot b sv mb, x ∉ rfoot rb rv
  bel : Below w.heap.size w wr
theorem Two.stepS {w wr w1 : World} {b : Nat} {sv sv1 : Value} {mb rb : Nat} {rv : Value} {L L1 R : List Tm} (h : Two w wr b sv mb rb rv L R) (s : SStep wr w1 b sv sv1 mb L1) : Two w w1 b sv1 mb rb rv L1 R :=
  ⟨s.st, h.rs.keep s.fr (fun x hx c => h.dis x c hx), s.base h.bel.size h.low, h.rlow, fun x hx c => by
    rcases mem_foot.1 hx with e | e | e
    · exact h.dis x (mem_foot.2 (Or.inl e)) c
    · exact h.dis x (mem_foot.2 (Or.inr (Or.inl e))) c
    · rcases s.place x e with q | q
      · exact h.dis x (mem_foot.2 (Or.inr (Or.inr q))) c
      · have := h.rs.lt x c; omega, Fr.toBase h.bel s.fr h.low⟩
theorem Two.stepR {w wr w1 : World} {b : Nat} {sv : Value} {mb rb : Nat} {rv rv1 : Value} {L R R1 : List Tm} (h : Two w wr b sv mb rb rv L R) (s : RStep wr w1 rb rv rv1 R1) : Two w w1 b sv mb rb rv1 L R1 :=
  ⟨h.st.keep s.fr (fun x hx => h.dis x hx), s.st, h.low, s.base h.bel.size h.rlow, fun x hx c => by
    rcases mem_rfoot.1 c with e | e
    · exact h.dis x hx (mem_rfoot.2 (Or.inl e))
    · rcases s.place x e with q | q
      · exact h.dis x hx (mem_rfoot.2 (Or.inr q))
      · have := h.st.lt x hx; omega, Fr.toBase h.bel s.fr h.rlow⟩
theorem Two.new {w wr w1 : World} {b : Nat} {sv : Value} {mb rb : Nat} {rv : Value} {L R : List Tm} (h : Two w wr b sv mb rb rv L R) (hb : Below wr.heap.size wr w1) : Two w w1 b sv mb rb rv L R :=
  ⟨h.st.bw hb, h.rs.bw hb, h.low, h.rlow, h.dis, bw_tr h.bel hb⟩
def fillL (L : List Tm) (l : List Tm) : List Tm := l.foldl mkL L
theorem fillL_len (l L : List Tm) : (fillL L l).length ≤ L.length + l.length := by
  induction l generalizing L with
  | nil => simp [fillL]
  | cons t l ih => have := ih (mkL L t); have := mkL_len L t; simp only [fillL, List.foldl_cons, List.length_cons] at *; omega
theorem fillL_take (l : List Tm) (L : List Tm) (i : Nat) (t : Tm) (h : l[i]? = some t) : fillL L (l.take (i + 1)) = mkL (fillL L (l.take i)) t := by
  rw [List.take_add_one, h]; simp [fillL]
set_option maxRecDepth 100000 in
set_option maxHeartbeats 8000000 in
theorem build_any (w : World) (a : Option Addr) (cap : Nat) (l : List Tm) (h : Tms w (.slice a l.length cap) l) (hok : ∀ t ∈ l, t.ok) (hlen : l.length ≤ 2000) :
    Calls Tryz.prog 7 #[.slice a l.length cap] w fun e w' => ∃ b sv mb rb rv, e = .returned (.tuple #[.pointer (some ⟨b, 0, none⟩), .pointer (some ⟨rb, 0, none⟩), .bool true]) ∧ Two w w' b sv mb rb rv (fillL [] l) (fillL [] l) := by
  obtain ⟨hl, hget⟩ := h.get
  obtain ⟨N, hN⟩ : ∃ N, N = l.length := ⟨_, rfl⟩
  rw [← hN]
  have HL := hide (And.intro hN (And.intro hget hok))
  have hlb : (N : Int) ≤ 2000 := by omega
  clear hget hok h hl hN hlen
  go_enter Tryz.func7, Tryz.ntmps7
  go_wp2_with fail
  refine (new_any w).mono ?_
  rintro e w1 ⟨b, mb, rfl, h1, hft, hb1⟩
  go_wp2_with fail
  refine (rnew_any w1).mono ?_
  rintro e w2 ⟨rb, rfl, h2, hrt, hb2⟩
  have HS : Hid (Two w w2 b (.slice none 0 0) mb rb (.slice none 0 0) [] []) := by
    have s1 := hb1.size
    exact ⟨h1.bw hb2, h2, hft, fun x hx => Nat.le_trans s1 (hrt x hx), fun x hx c => by have := h1.lt x hx; have := hrt x c; omega, bw_tr hb1 hb2⟩
  clear h1 hft hb1 h2 hrt hb2
  go_wp2_with fail
  go_loopw [7] (fun iv wr => ∃ (i : Nat) (sv rv : Value), i ≤ N ∧ iv = .int .i64 (i : Int) ∧ Hid (Two w wr b sv mb rb rv (fillL [] (l.take i)) (fillL [] (l.take i)))) (fun iv _ => (N - intOf iv).toNat)
  case atStart => exact ⟨0, _, _, by omega, rfl, HS⟩
  case round =>
    clear HS
    obtain ⟨i, sv, rv, hi, rfl, HS⟩ := hrel
    by_cases hlt : i < N
    · obtain ⟨hN, hget, hok⟩ := unhide HL
      obtain ⟨t, ht⟩ : ∃ t, l[i]? = some t := ⟨_, List.getElem?_eq_getElem (by omega)⟩
      obtain ⟨g, o, rfl, hT⟩ := hget i t ht
      have hto := hok t (List.mem_of_getElem? ht)
      have hS := unhide HS
      have K1 := make_any b sv mb _ t wr hS.st hto
      have K2 : ∀ w2 sv2, SStep wr w2 b sv sv2 mb (mkL (fillL [] (l.take i)) t) → _ := fun w2 sv2 s2 => rmake_any rb rv _ t w2 (hS.stepS s2).rs hto
      have hfl := fillL_take l [] i t ht
      have HF := hide hfl
      have HK2 := hide K2
      have HT := hide hT
      have hi1 : (i : Int) < (N : Int) := by omega
      obtain ⟨t0, t1, t2, t3⟩ := hT wr hS.bel
      clear hget hok ht hto hS hT hN hfl K2
      go_wp2_with fail
      refine K1.mono ?_
      rintro e w3 ⟨rfl, sv2, s2⟩
      have K3 := unhide HK2 w3 sv2 s2
      have S2 := (unhide HS).stepS s2
      obtain ⟨u0, u1, u2, u3⟩ := unhide HT w3 S2.bel
      have HS2 := hide S2
      clear s2 S2 K1 t0 t1 t2 t3 HK2 HS
      go_wp2_with fail
      refine K3.mono ?_
      rintro e w4 ⟨rfl, rv2, s3⟩
      have S3 := (unhide HS2).stepR s3
      rw [← unhide HF] at S3
      have HS3 := hide S3
      clear s3 S3 K3 u0 u1 u2 u3 HS2
      go_wp2_with fail
      go_roundw
      case rel => exact ⟨i + 1, sv2, rv2, by omega, by go_num, HS3⟩
      case measure => simp only [intOf]; omega
    · obtain rfl : i = N := by omega
      have e : l.take i = l := List.take_of_length_le (by have := (unhide HL).1; omega)
      have hS := unhide HS
      rw [e] at hS
      have HS2 := hide hS
      clear e hS hlt HL HS
      go_wp2_with fail
      refine bodyPost_ret (v := .tuple #[.pointer (some ⟨b, 0, none⟩), .pointer (some ⟨rb, 0, none⟩), .bool true]) (by simp [results, Tryz.results7, go_sem]) rfl ⟨b, sv, mb, rb, rv, rfl, unhide HS2⟩
end Go.Proofs.YtpcpcgagiapinaaGreatDoor.Tn

/- Package hold: is a store there, has it a term; terms made where there is room. -/
namespace Go.Proofs.YtpcpcgagiapinaaGreatDoor.Tn
open Go.RowKit Go.Maps
theorem bwA' (w : World) (o : Obj) : Below w.heap.size w (w.alloc o) := (Below.refl _ _).alloc (Nat.le_refl _) _
theorem make_ok {b : Nat} {sv : Value} {mb : Nat} {L : List Tm} {w : World} (h : St w b sv mb L) (k n x y : Int) (ht : Tm.ok ⟨k, n, x, y⟩) (hm : may L.length ⟨k, n, x, y⟩ = true) (hl : L.length < 1048576) :
    Calls Tryz.prog 22 #[.pointer (some ⟨b, 0, none⟩), .agg #[.int .u8 k, .int .i64 n, .int .i64 x, .int .i64 y]] w fun e w' => e = .returned (.tuple #[.int .i64 (mkN L ⟨k, n, x, y⟩ : Nat), .int .i64 0]) ∧ ∃ sv', SStep w w' b sv sv' mb (mkL L ⟨k, n, x, y⟩) := by
  refine (make_any b sv mb L ⟨k, n, x, y⟩ w h ht).mono ?_
  rintro e w' ⟨rfl, s⟩
  rw [(mk_ok hm hl).1]
  exact ⟨rfl, s⟩
theorem mkN_thr {L : List Tm} {t : Tm} (hm : may L.length t = true) (hl : L.length < 1048576) : thr (mkL L t).length (mkN L t : Nat) = true ∧ (mkN L t : Int) ≤ 1048577 := by
  obtain ⟨_, h2, h3⟩ := mk_ok hm hl
  have := num_get h3
  have := num_le (mkL L t) t
  have := mkL_len L t
  rw [h2]
  exact ⟨thr_iff.2 (by omega), by omega⟩
set_option maxRecDepth 100000 in
set_option maxHeartbeats 2000000 in
theorem list_empty {b : Nat} {sv : Value} {mb : Nat} {L : List Tm} {w : World} (h : St w b sv mb L) :
    Calls Tryz.prog 85 #[.pointer (some ⟨b, 0, none⟩), .slice none 0 0] w fun e w' => e = .returned (.tuple #[.int .i64 0, .int .i64 0]) ∧ w' = w := by
  have K := hide (missing_any b sv mb L w h)
  clear h
  go_enter Tryz.func85, Tryz.ntmps85
  go_wp2_with fail
  refine (unhide K).mono ?_
  rintro e w ⟨rfl, rfl⟩
  clear K
  go_wp2
  refine wp_loop_rounds 1 ?_
  rw [rounds_succ]
  go_wp2
  go_ret2
  exact ⟨rfl, rfl⟩
set_option maxRecDepth 100000 in
theorem hmissing_any {b : Nat} {sv : Value} {mb : Nat} {L : List Tm} {w : World} (h : St w b sv mb L) :
    Calls Tryz.prog 33 #[.pointer (some ⟨b, 0, none⟩)] w fun e w' => e = .returned (.bool false) ∧ w' = w := by
  have K := hide (list_empty h)
  clear h
  go_enter Tryz.func33, Tryz.ntmps33
  go_wp2_with fail
  refine (unhide K).mono ?_
  rintro e w ⟨rfl, rfl⟩
  clear K
  go_wp2
  go_ret
  exact ⟨rfl, rfl⟩
set_option maxRecDepth 100000 in
theorem hhas_any {b : Nat} {sv : Value} {mb : Nat} {L : List Tm} {w : World} (h : St w b sv mb L) (x : Int) :
    Calls Tryz.prog 34 #[.pointer (some ⟨b, 0, none⟩), .int .i64 x] w fun e w' => e = .returned (.bool (thr L.length x)) ∧ Below w.heap.size w w' := by
  have K := hide (get_any b sv mb L x w h)
  clear h
  generalize thr L.length x = r at *
  generalize getT L x = t at *
  go_enter Tryz.func34, Tryz.ntmps34
  go_wp2_with fail
  refine (unhide K).mono ?_
  rintro e w1 ⟨rfl, y⟩
  clear K
  go_wp2
  go_ret
  exact ⟨rfl, y.alloc y.size _⟩
end Go.Proofs.YtpcpcgagiapinaaGreatDoor.Tn

/- The contract of sched.secrets. -/
namespace Go.Proofs.YtpcpcgagiapinaaGreatDoor.Tn
open Go.RowKit Go.Maps
def s5 (L : List Tm) (E : Int) : List Tm := mkL L ⟨4, 5, E, 0⟩
def s6 (L : List Tm) (E : Int) : List Tm := mkL (s5 L E) ⟨4, 6, E, 0⟩
def s7 (L : List Tm) (E : Int) : List Tm := mkL (s6 L E) ⟨4, 7, E, 0⟩
def s8 (L : List Tm) (E : Int) : List Tm := mkL (s7 L E) ⟨4, 8, E, 0⟩
theorem St.notin {w : World} {b : Nat} {sv : Value} {mb : Nat} {L : List Tm} {k : Nat} {cs : Array Value} {t : TypeId} (h : St w b sv mb L) (hk : w.heap[k]? = some (.cells cs t (0, 0))) (h1 : t ≠ 131) (h2 : t ≠ 64) : k ∉ foot b sv mb := by
  intro c
  rcases mem_foot.1 c with rfl | rfl | c
  · rw [h.blk] at hk; injection hk with hk; injection hk with _ hk; exact h1 hk.symm
  · obtain ⟨es, cl, e⟩ := h.map.block; rw [e] at hk; cases hk
  · obtain ⟨cur, e⟩ := h.row.block c; rw [e] at hk; injection hk with hk; injection hk with _ hk; exact h2 hk.symm
theorem kept_blk {w w' : World} {k : Nat} {o : Obj} (h : w.heap[k]? = some o) (hb : Below w.heap.size w w') : w'.heap[k]? = some o := by rw [hb.block k (lt_of_blk h)]; exact h
theorem kept_fr {w w' : World} {b : Nat} {sv : Value} {mb : Nat} {L : List Tm} {k : Nat} {cs : Array Value} {t : TypeId} (h : w.heap[k]? = some (.cells cs t (0, 0))) (hs : St w b sv mb L) (hf : Fr (foot b sv mb) w w') (h1 : t ≠ 131) (h2 : t ≠ 64) : w'.heap[k]? = some (.cells cs t (0, 0)) := by rw [hf.block k (lt_of_blk h) (hs.notin h h1 h2)]; exact h
theorem SStep.poke {w W : World} {b : Nat} {sv sv' : Value} {mb : Nat} {L : List Tm} {k i : Nat} {cs : Array Value} {t : TypeId} (h : SStep w W b sv sv' mb L) (hk : W.heap[k]? = some (.cells cs t (0, 0))) (h1 : t ≠ 131) (h2 : t ≠ 64) (hw : w.heap.size ≤ k) (v : Value) : SStep w (W.setCell ⟨k, i, none⟩ v) b sv sv' mb L :=
  ⟨h.st.keep (S := [k]) ((Fr.refl _ _).setCell (a := ⟨k, i, none⟩) (Or.inr (by simp)) v) (fun x hx c => by simp at c; subst c; exact h.st.notin hk h1 h2 hx), h.fr.setCell (a := ⟨k, i, none⟩) (Or.inl hw) v, h.place⟩
theorem poke_blk {W : World} {k i : Nat} {cs : Array Value} {t : TypeId} (hk : W.heap[k]? = some (.cells cs t (0, 0))) (v : Value) : (W.setCell ⟨k, i, none⟩ v).heap[k]? = some (.cells (cs.setIfInBounds i v) t (0, 0)) := by
  simp [World.setCell, Array.getElem?_modify, hk]
theorem row_other {W : World} {k j : Nat} (new : Array Value) (hj : j ≠ k) : (W.setRow j new).heap[k]? = W.heap[k]? := by
  simp only [World.setRow, Array.getElem?_modify, if_neg hj]
theorem SStep.row {w W : World} {b : Nat} {sv sv' : Value} {mb : Nat} {L : List Tm} {k : Nat} {cs : Array Value} {t : TypeId} (h : SStep w W b sv sv' mb L) (hk : W.heap[k]? = some (.cells cs t (0, 0))) (h1 : t ≠ 131) (h2 : t ≠ 64) (hw : w.heap.size ≤ k) (new : Array Value) : SStep w (W.setRow k new) b sv sv' mb L := by
  have hs : (W.setRow k new).heap.size = W.heap.size := by simp [World.setRow]
  have f1 : Fr [k] W (W.setRow k new) := ⟨rfl, rfl, rfl, by rw [hs]; exact Nat.le_refl _, fun x _ hx => row_other new (fun c => hx (by simp [c]))⟩
  refine ⟨h.st.keep f1 (fun x hx c => by simp at c; subst c; exact h.st.notin hk h1 h2 hx), ?_, h.place⟩
  exact h.fr.trans f1 (fun _ _ c => c) (fun x hx c => by simp at c; omega)
theorem blk_cell {W : World} {k i : Nat} {cs : Array Value} {t : TypeId} {v : Value} (hk : W.heap[k]? = some (.cells cs t (0, 0))) (h : cs[i]? = some v) : W.cell? ⟨k, i, none⟩ = some v := by
  simp [World.cell?, hk, h]
theorem blk_froz {W : World} {k i : Nat} {cs : Array Value} {t : TypeId} (hk : W.heap[k]? = some (.cells cs t (0, 0))) : W.frozen? ⟨k, i, none⟩ = false := by
  simp [World.frozen?, hk]
theorem may_kdf {N : Nat} {l s c : Int} (hl : 0 ≤ l) (hs : thr N s = true) (hc : c = 0 ∨ thr N c = true) : may N ⟨4, l, s, c⟩ = true := by
  unfold may
  simp [hl, hs]
  exact hc
theorem ok_kdf {l s c : Int} (h : 0 ≤ l ∧ l ≤ 100 ∧ 0 ≤ s ∧ s ≤ 1048577 ∧ 0 ≤ c ∧ c ≤ 1048577) : Tm.ok ⟨4, l, s, c⟩ := by
  constructor <;> simp <;> omega
theorem thr_rng {N : Nat} {x : Int} (h : thr N x = true) (hN : N ≤ 1048576) : 0 ≤ x ∧ x ≤ 1048577 := by have := thr_iff.1 h; omega
end Go.Proofs.YtpcpcgagiapinaaGreatDoor.Tn

/- The contract of the document's Get. -/
namespace Go.Proofs.YtpcpcgagiapinaaGreatDoor.Tn
open Go.RowKit Go.Maps
set_option maxRecDepth 100000 in
set_option maxHeartbeats 4000000 in
theorem rget_any (b : Nat) (sv : Value) (L : List Tm) (x : Int) (w : World) (h : Rs w b sv L) :
    Calls Tryz.prog 87 #[.pointer (some ⟨b, 0, none⟩), .int .i64 x] w fun e w' => e = .returned (.tuple #[.agg #[.int .u8 (getT L x).kd, .int .i64 (getT L x).n, .int .i64 (getT L x).a, .int .i64 (getT L x).b], .bool (thr L.length x)]) ∧ Below w.heap.size w w' := by
  have K := there_any b sv L x _ (h.bw ((Below.refl w.heap.size w).alloc (Nat.le_refl _) (.cells #[.int .u8 0, .int .i64 0, .int .i64 0, .int .i64 0] 64)))
  cases ht : thr L.length x
  · have e : getT L x = ⟨0, 0, 0, 0⟩ := by simp [getT, ht]
    rw [e]
    rw [ht] at K
    clear e ht h
    go_enter Tryz.func87, Tryz.ntmps87
    go_wp2_with fail
    refine K.mono ?_
    rintro e w1 ⟨rfl, rfl⟩
    go_wp2
    exact bodyPost_ret (v := .tuple #[.agg #[.int .u8 0, .int .i64 0, .int .i64 0, .int .i64 0], .bool false]) (by simp [results, Tryz.results87, go_sem]) rfl ⟨rfl, (Below.refl _ _).alloc (Nat.le_refl _) _⟩
  · rw [ht] at K
    obtain ⟨i, t, rfl, hi, hlt, e⟩ := thr_open ht
    rw [e]
    have hl := h.len
    obtain ⟨c0, _⟩ := h.cells
    have hbw := lt_of_blk h.blk
    obtain ⟨g, cap, rfl, hg, t0, t1, t2, t3⟩ : ∃ g cap, sv = .slice (some ⟨g, 0, none⟩) L.length cap ∧ g < w.heap.size ∧ TAt w g (i * 4) t := by
      rcases h.row.form with ⟨_, rfl⟩ | ⟨g, cap, hv, _, hg, _⟩
      · simp at hlt
      · exact ⟨g, cap, hv, hg, h.row.at (by rw [hv]; rfl) hi⟩
    have hlt' : (i : Int) < (L.length : Int) := by omega
    clear e ht h hi
    generalize L.length = N at *
    go_enter Tryz.func87, Tryz.ntmps87
    go_wp2_with fail
    refine K.mono ?_
    rintro e w1 ⟨rfl, rfl⟩
    go_wp2
    exact bodyPost_ret (v := .tuple #[.agg #[.int .u8 t.kd, .int .i64 t.n, .int .i64 t.a, .int .i64 t.b], .bool true]) (by simp [results, Tryz.results87, go_sem]) rfl ⟨rfl, (Below.refl _ _).alloc (Nat.le_refl _) _⟩
end Go.Proofs.YtpcpcgagiapinaaGreatDoor.Tn

/- What Across keeps in memory. No walk is in this text. -/
namespace Go.Proofs.YtpcpcgagiapinaaGreatDoor.Tn
open Go.RowKit Go.Maps
structure Ac (w wr : World) (b : Nat) (sv : Value) (mb rb : Nat) (rv : Value) (L R : List Tm) (mp : Nat) (lv : Value) (ph : List Nat) : Prop where
  two : Two w wr b sv mb rb rv L R
  blk : wr.heap[mp]? = some (.cells #[lv] 98 (0, 0))
  row : NRow 0 wr lv ph
  mlow : w.heap.size ≤ mp
  llow : ∀ k, lv.ownBlock = some k → w.heap.size ≤ k
theorem Ac.apart {w wr : World} {b : Nat} {sv : Value} {mb rb : Nat} {rv : Value} {L R : List Tm} {mp : Nat} {lv : Value} {ph : List Nat} (h : Ac w wr b sv mb rb rv L R mp lv ph) :
    lv.ownBlock ≠ some mp ∧ mp ∉ foot b sv mb ∧ mp ∉ rfoot rb rv ∧ (∀ k, lv.ownBlock = some k → k ∉ foot b sv mb) ∧ ∀ k, lv.ownBlock = some k → k ∉ rfoot rb rv := by
  refine ⟨fun c => ?_, fun c => ?_, fun c => ?_, h.row.foot h.two.st, fun k hk c => ?_⟩
  · obtain ⟨_, h1⟩ := h.row.block c; rw [h.blk] at h1; simp at h1
  · rcases mem_foot.1 c with e | e | e
    · have := h.two.st.blk; rw [← e, h.blk] at this; simp at this
    · obtain ⟨es, ck, hm⟩ := h.two.st.map.block; rw [← e, h.blk] at hm; simp at hm
    · obtain ⟨_, h1⟩ := h.two.st.row.block e; rw [h.blk] at h1; simp at h1
  · rcases mem_rfoot.1 c with e | e
    · have := h.two.rs.blk; rw [← e, h.blk] at this; simp at this
    · obtain ⟨_, h1⟩ := h.two.rs.row.block e; rw [h.blk] at h1; simp at h1
  · obtain ⟨_, h1⟩ := h.row.block hk
    rcases mem_rfoot.1 c with e | e
    · have := h.two.rs.blk; rw [← e, h1] at this; simp at this
    · exact rows_apart h.two.rs.row h.row e hk
theorem Ac.new {w wr w1 : World} {b : Nat} {sv : Value} {mb rb : Nat} {rv : Value} {L R : List Tm} {mp : Nat} {lv : Value} {ph : List Nat} (h : Ac w wr b sv mb rb rv L R mp lv ph) (hb : Below wr.heap.size wr w1) : Ac w w1 b sv mb rb rv L R mp lv ph :=
  ⟨h.two.new hb, by rw [hb.block mp (lt_of_blk h.blk)]; exact h.blk, h.row.keep (fun k hk => hb.block k (h.row.lt k hk).2), h.mlow, h.llow⟩
theorem Ac.stepR {w wr w1 : World} {b : Nat} {sv : Value} {mb rb : Nat} {rv rv1 : Value} {L R R1 : List Tm} {mp : Nat} {lv : Value} {ph : List Nat} (h : Ac w wr b sv mb rb rv L R mp lv ph) (s : RStep wr w1 rb rv rv1 R1) : Ac w w1 b sv mb rb rv1 L R1 mp lv ph := by
  obtain ⟨a1, a2, a3, a4, a5⟩ := h.apart
  exact ⟨h.two.stepR s, by rw [s.fr.block mp (lt_of_blk h.blk) a3]; exact h.blk, h.row.keep (fun k hk => s.fr.block k (h.row.lt k hk).2 (a5 k hk)), h.mlow, h.llow⟩
theorem Ac.push {w w1 w2 : World} {b : Nat} {sv : Value} {mb rb : Nat} {rv : Value} {L R : List Tm} {mp : Nat} {lv v' : Value} {ph : List Nat} {k : Nat} {ob : Obj} (h : Ac w w1 b sv mb rb rv L R mp lv ph)
    (hown : w2.ownsRow 0 3 1 v' (ph.length + 1) (ph.map (fun m => .int .i64 ((m : Nat) : Int)) ++ [.int .i64 (k : Int)])) (hg : (w1.alloc ob).grownBy w2 lv.ownBlock) (hat : v'.ownBlock = lv.ownBlock ∨ v'.ownBlock = some (w1.alloc ob).heap.size) :
    w2.cell? ⟨mp, 0, none⟩ = some lv ∧ w2.frozen? ⟨mp, 0, none⟩ = false ∧ Ac w (w2.setCell ⟨mp, 0, none⟩ v') b sv mb rb rv L R mp v' (ph ++ [k]) := by
  obtain ⟨a1, a2, a3, a4, a5⟩ := h.apart
  have f1 : Fr lv.ownBlock.toList w1 w2 := ((Fr.refl lv.ownBlock.toList w1).alloc ob).tr (Fr.ofGrown hg)
  have f2 : Fr (mp :: lv.ownBlock.toList) w1 (w2.setCell ⟨mp, 0, none⟩ v') := (f1.mono (fun x _ c => List.mem_cons_of_mem _ c)).setCell (Or.inr (by simp)) _
  have hs1 := h.two.bel.size
  have hb2 : w2.heap[mp]? = some (.cells #[lv] 98 (0, 0)) := by
    rw [f1.block mp (lt_of_blk h.blk) (fun c => a1 (by simpa using c))]; exact h.blk
  have hne : v'.ownBlock ≠ some mp := by
    rcases hat with c | c
    · rw [c]; exact a1
    · rw [c]; intro e; have := lt_of_blk h.blk; simp at e; omega
  have d1 : ∀ x, x ∈ foot b sv mb → x ∉ mp :: lv.ownBlock.toList := fun x hx c => by
    rcases List.mem_cons.1 c with c | c
    · rw [c] at hx; exact a2 hx
    · exact a4 x (by simpa using c) hx
  have d2 : ∀ x, x ∈ rfoot rb rv → x ∉ mp :: lv.ownBlock.toList := fun x hx c => by
    rcases List.mem_cons.1 c with c | c
    · rw [c] at hx; exact a3 hx
    · exact a5 x (by simpa using c) hx
  refine ⟨by simp [World.cell?, hb2], by simp [World.frozen?, hb2], ⟨⟨h.two.st.keep f2 d1, h.two.rs.keep f2 d2, h.two.low, h.two.rlow, h.two.dis, ?_⟩, by simp [World.setCell, Array.getElem?_modify, hb2], ?_, h.mlow, ?_⟩⟩
  · refine Fr.toBase h.two.bel f2 (fun x hx => ?_)
    rcases List.mem_cons.1 hx with c | c
    · rw [c]; exact h.mlow
    · exact h.llow x (by simpa using c)
  · have hr : NRow 0 w2 v' (ph ++ [k]) := by unfold NRow; simpa using hown
    exact hr.keep fun x hx => Below.heap_setCell _ _ _ _ (fun c => hne (by rw [hx, c]))
  · intro x hx
    rcases hat with c | c
    · exact h.llow x (by rw [← c]; exact hx)
    · rw [c] at hx; simp at hx; omega
theorem Ac.start {w wr : World} {b : Nat} {sv : Value} {mb rb : Nat} {rv : Value} {L R : List Tm} (h : Two w wr b sv mb rb rv L R) :
    Ac w ((wr.alloc (.cells #[.int .i64 0] 3)).alloc (.cells #[.slice (some ⟨wr.heap.size, 0, none⟩) 1 1] 98)) b sv mb rb rv L R (wr.heap.size + 1) (.slice (some ⟨wr.heap.size, 0, none⟩) 1 1) [0] := by
  have e : (wr.alloc (.cells #[.int .i64 0] 3)).heap.size = wr.heap.size + 1 := by simp
  have hs := h.bel.size
  refine ⟨h.new (((Below.refl _ _).alloc (Nat.le_refl _) _).alloc (by simp) _), ?_, ?_, by omega, ?_⟩
  · rw [← e]; exact heap_alloc_new _ _
  · refine ⟨rfl, Or.inr ⟨wr.heap.size, 1, #[.int .i64 0], rfl, Nat.zero_le _, ?_, Nat.le_refl _, by unfold maxLen; omega, rfl, rfl⟩⟩
    rw [Below.heap_alloc _ _ _ (by simp)]; exact heap_alloc_new _ _
  · intro k hk
    simp [Value.ownBlock] at hk
    omega
theorem Ac.cells {w wr : World} {b : Nat} {sv : Value} {mb rb : Nat} {rv : Value} {L R : List Tm} {mp : Nat} {lv : Value} {ph : List Nat} (h : Ac w wr b sv mb rb rv L R mp lv ph) : wr.cell? ⟨mp, 0, none⟩ = some lv ∧ wr.frozen? ⟨mp, 0, none⟩ = false := by
  refine ⟨?_, ?_⟩ <;> simp [World.cell?, World.frozen?, h.blk]
theorem Ac.form {w wr : World} {b : Nat} {sv : Value} {mb rb : Nat} {rv : Value} {L R : List Tm} {mp : Nat} {lv : Value} {ph : List Nat} (h : Ac w wr b sv mb rb rv L R mp lv ph) (hp : 0 < ph.length) : ∃ g cap, lv = .slice (some ⟨g, 0, none⟩) ph.length cap ∧ g < wr.heap.size := by
  rcases h.row.form with ⟨_, c⟩ | ⟨g, cap, hv, _, hg, _⟩
  · rw [c] at hp; simp at hp
  · exact ⟨g, cap, hv, hg⟩
theorem Ac.at {w wr : World} {b : Nat} {sv : Value} {mb rb : Nat} {rv : Value} {L R : List Tm} {mp g n cap : Nat} {ph : List Nat} (h : Ac w wr b sv mb rb rv L R mp (.slice (some ⟨g, 0, none⟩) n cap) ph) {i : Nat} (hi : i < ph.length) : wr.cell? ⟨g, i, none⟩ = some (.int .i64 ((ph.getD i 0 : Nat) : Int)) :=
  h.row.at rfl (by simp [List.getD, List.getElem?_eq_getElem hi])
end Go.Proofs.YtpcpcgagiapinaaGreatDoor.Tn
