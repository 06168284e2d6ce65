/- Contracts of package journal: newest. -/
import Derived.Test.YtimhjheigejjmabJnE
namespace Go.Proofs.Ytimhjheigejjmab
open Go.RowKit Go.Maps

/-- Two heads stand in a disk's first sectors. -/
structure Heads (S : DS) (n0 l0 n1 l1 : Nat) : Prop where
  up : S.up = true
  N : 4 ≤ S.N
  h0 : S.now 0 = hd n0 l0
  h1 : S.now 1 = hd n1 l1
  b0 : n0 < 9223372036854775807
  b1 : n1 < 9223372036854775807
  z0 : n0 = 0 → l0 = 0
  z1 : n1 = 0 → l1 = 0
  r0 : l0 ≤ (S.N - 2) / 2 * 64
  r1 : l1 ≤ (S.N - 2) / 2 * 64
  pr : pairB n0 n1 = true
theorem Heads.lens {S : DS} {n0 l0 n1 l1 : Nat} (h : Heads S n0 l0 n1 l1) (ok : S.ok) : l0 < 4294967296 ∧ l1 < 4294967296 := by
  have := ok.n2; have := h.r0; have := h.r1; omega
set_option maxRecDepth 100000 in
set_option maxHeartbeats 4000000 in
theorem newest_any {w W : World} {d : Nat} {S : DS} {rs : List Res} (h : ED w W d S rs) {n0 l0 n1 l1 : Nat} (hh : Heads S n0 l0 n1 l1) :
    Calls Try.prog 54 #[.pointer (some ⟨d, 0, none⟩)] W fun e W' => e = .returned (.tuple #[.agg #[.int .i64 ((if n1 < n0 then n0 else n1 : Nat) : Int), .int .i64 ((if n1 < n0 then l0 else l1 : Nat) : Int)], .bool true]) ∧ ED w W' d S rs ∧ Below W.heap.size W W' := by
  obtain ⟨W0, hW0⟩ : ∃ W0, W0 = W.alloc (.cells #[.int .i64 0, .int .i64 0] 89) := ⟨_, rfl⟩
  have hb0 : W0.heap[W.heap.size]? = some (.cells #[.int .i64 0, .int .i64 0] 89 (0, 0)) := by rw [hW0]; exact heap_alloc_new _ _
  have hBel0 : Below W.heap.size W W0 := by rw [hW0]; exact bw_alloc _ _
  obtain ⟨hl0, hl1⟩ := hh.lens h.ok
  have KA := headAt_any (h.new hBel0) hh.up hh.N 0 n0 l0 (by have := hh.N; omega) (by have := hh.b0; omega) hl0 hh.z0 hh.h0 hh.r0
  have KBf := hide (fun (X : World) (hX : ED w X d S rs) => headAt_any hX hh.up hh.N 1 n1 l1 (by have := hh.N; omega) (by have := hh.b1; omega) hl1 hh.z1 hh.h1 hh.r1)
  have KP := hide (fun X => pair_any n0 n1 (by have := hh.b0; omega) (by have := hh.b1; omega) X)
  rw [hh.pr] at KP
  have HEW := hide h
  have HB0 := hide (And.intro hb0 hBel0)
  have HW0 := hide hW0
  obtain ⟨rn, hrn⟩ : ∃ rn, rn = (if n1 < n0 then n0 else n1) := ⟨_, rfl⟩
  obtain ⟨rl, hrl⟩ : ∃ rl, rl = (if n1 < n0 then l0 else l1) := ⟨_, rfl⟩
  rw [← hrn, ← hrl]
  have HRN := hide (And.intro hrn hrl)
  clear h hh hb0 hBel0 hl0 hl1 hrn hrl
  go_enter Try.func54, Try.ntmps54
  go_wp2_with fail
  rw [← unhide HW0]
  clear hW0
  refine KA.mono ?_
  rintro e W1 ⟨rfl, E1, b1⟩
  obtain ⟨X1, hX1⟩ : ∃ X, X = W1.alloc (.cells #[.int .i64 (n0 : Int), .int .i64 (l0 : Int)] 89) := ⟨_, rfl⟩
  have bX1 : Below W0.heap.size W0 X1 := bw_tr b1 (by rw [hX1]; exact bw_alloc _ _)
  have q1 : X1.heap[W1.heap.size]? = some (.cells #[.int .i64 (n0 : Int), .int .i64 (l0 : Int)] 89 (0, 0)) := by rw [hX1]; exact heap_alloc_new _ _
  have EX1 : ED w X1 d S rs := E1.new (by rw [hX1]; exact bw_alloc _ _)
  have KB := unhide KBf X1 EX1
  have HX1 := hide (And.intro bX1 q1)
  have HX1e := hide hX1
  clear KA E1 b1 bX1 q1 EX1 KBf
  go_wp2_with fail
  rw [← unhide HX1e]
  clear hX1
  refine KB.mono ?_
  rintro e W2 ⟨rfl, E2, b2⟩
  obtain ⟨X2, hX2⟩ : ∃ X, X = W2.alloc (.cells #[.int .i64 (n1 : Int), .int .i64 (l1 : Int)] 89) := ⟨_, rfl⟩
  have b2' : Below X1.heap.size X1 X2 := bw_tr b2 (by rw [hX2]; exact bw_alloc _ _)
  have q2 : X2.heap[W2.heap.size]? = some (.cells #[.int .i64 (n1 : Int), .int .i64 (l1 : Int)] 89 (0, 0)) := by rw [hX2]; exact heap_alloc_new _ _
  have q1 : X2.heap[W1.heap.size]? = _ := (b2'.block _ (lt_of_blk (unhide HX1).2)).trans (unhide HX1).2
  have q0 : X2.heap[W.heap.size]? = _ := (b2'.block _ (Nat.lt_of_lt_of_le (lt_of_blk (unhide HB0).1) (unhide HX1).1.size)).trans (((unhide HX1).1.block _ (lt_of_blk (unhide HB0).1)).trans (unhide HB0).1)
  have hBW : Below W.heap.size W X2 := bw_tr (unhide HB0).2 (bw_tr (unhide HX1).1 b2')
  have c0 : X2.cell? ⟨W.heap.size, 0, none⟩ = some (.int .i64 0) := by simp [World.cell?, q0]
  have c1 : X2.cell? ⟨W.heap.size, 1, none⟩ = some (.int .i64 0) := by simp [World.cell?, q0]
  have f0 : X2.frozen? ⟨W.heap.size, 0, none⟩ = false := by simp [World.frozen?, q0]
  have f1 : X2.frozen? ⟨W.heap.size, 1, none⟩ = false := by simp [World.frozen?, q0]
  have c2 : X2.cell? ⟨W1.heap.size, 0, none⟩ = some (.int .i64 (n0 : Int)) := by simp [World.cell?, q1]
  have c3 : X2.cell? ⟨W1.heap.size, 1, none⟩ = some (.int .i64 (l0 : Int)) := by simp [World.cell?, q1]
  have c4 : X2.cell? ⟨W2.heap.size, 0, none⟩ = some (.int .i64 (n1 : Int)) := by simp [World.cell?, q2]
  have c5 : X2.cell? ⟨W2.heap.size, 1, none⟩ = some (.int .i64 (l1 : Int)) := by simp [World.cell?, q2]
  have HZ : Hid (∀ a b : Int, (((X2.setCell ⟨W.heap.size, 0, none⟩ (.int .i64 a)).setCell ⟨W.heap.size, 1, none⟩ (.int .i64 b)).cell? ⟨W.heap.size, 0, none⟩ = some (.int .i64 a) ∧ ((X2.setCell ⟨W.heap.size, 0, none⟩ (.int .i64 a)).setCell ⟨W.heap.size, 1, none⟩ (.int .i64 b)).cell? ⟨W.heap.size, 1, none⟩ = some (.int .i64 b)) ∧ ED w ((X2.setCell ⟨W.heap.size, 0, none⟩ (.int .i64 a)).setCell ⟨W.heap.size, 1, none⟩ (.int .i64 b)) d S rs ∧ Below W.heap.size W ((X2.setCell ⟨W.heap.size, 0, none⟩ (.int .i64 a)).setCell ⟨W.heap.size, 1, none⟩ (.int .i64 b))) := fun a b => by
    have s0 := setc_blk (j := 1) (v := .int .i64 b) (setc_blk (j := 0) (v := .int .i64 a) q0)
    have hB : Below W.heap.size W ((X2.setCell ⟨W.heap.size, 0, none⟩ (.int .i64 a)).setCell ⟨W.heap.size, 1, none⟩ (.int .i64 b)) :=
      Fr.toBase (S := [W.heap.size]) hBW (((Fr.refl [W.heap.size] X2).setCell (Or.inr (by simp)) _).setCell (Or.inr (by simp)) _) (by simp)
    exact ⟨⟨by simp [World.cell?, s0], by simp [World.cell?, s0]⟩, (unhide HEW).new hB, hB⟩
  have HX2 := hide hX2
  clear KB E2 b2 b2' q0 q1 q2 hBW HX1 HX1e
  go_upto_region 3 with fail
  rw [← unhide HX2]
  clear hX2
  go_wp2_with fail
  refine (unhide KP _).mono ?_
  rintro e X2' ⟨rfl, hx⟩
  subst hx
  by_cases hlt : n1 < n0
  · have g : (n1 : Int) < (n0 : Int) := by omega
    obtain ⟨e1, e2⟩ := unhide HRN
    rw [if_pos hlt] at e1 e2
    subst e1
    subst e2
    obtain ⟨⟨u0, u1⟩, HE⟩ := unhide HZ (rn : Int) (rl : Int)
    have HE' := hide HE
    clear HE HZ KP hlt
    go_wp2_with fail
    generalize hZ : World.setCell (World.setCell _ _ _) _ _ = Z at *
    refine bodyPost_ret (v := .tuple #[.agg #[.int .i64 (rn : Int), .int .i64 (rl : Int)], .bool true]) (by simp [results, Try.results54, go_sem, u0, u1]) rfl ⟨rfl, unhide HE'⟩
  · have g : ¬ ((n1 : Int) < (n0 : Int)) := by omega
    obtain ⟨e1, e2⟩ := unhide HRN
    rw [if_neg hlt] at e1 e2
    subst e1
    subst e2
    obtain ⟨⟨u0, u1⟩, HE⟩ := unhide HZ (rn : Int) (rl : Int)
    have HE' := hide HE
    clear HE HZ KP hlt
    go_wp2_with fail
    generalize hZ : World.setCell (World.setCell _ _ _) _ _ = Z at *
    refine bodyPost_ret (v := .tuple #[.agg #[.int .i64 (rn : Int), .int .i64 (rl : Int)], .bool true]) (by simp [results, Try.results54, go_sem, u0, u1]) rfl ⟨rfl, unhide HE'⟩

end Go.Proofs.Ytimhjheigejjmab
