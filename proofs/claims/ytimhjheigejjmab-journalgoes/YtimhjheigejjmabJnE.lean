/- Contracts of package journal: headAt. -/
import Derived.Test.YtimhjheigejjmabJnD
namespace Go.Proofs.Ytimhjheigejjmab
open Go.RowKit Go.Maps

theorem be_zero (k t : Nat) : UInt8.ofNat (0 / 256 ^ (k - 1 - t) % 256) = 0 := by simp
theorem hd_get (n len : Nat) (h : n = 0 → len = 0) : (∃ c, (hd n len).data.toList[0]? = some c) ∧ (∀ t, t < 8 → (hd n len).data.toList[1 + t]? = some (UInt8.ofNat (n / 256 ^ (8 - 1 - t) % 256))) ∧ (∀ t, t < 4 → (hd n len).data.toList[9 + t]? = some (UInt8.ofNat (len / 256 ^ (4 - 1 - t) % 256))) := by
  by_cases h0 : n = 0
  · have hl := h h0
    subst h0
    subst hl
    have hz : ∀ i, i < 64 → (hd 0 0).data.toList[i]? = some 0 := fun i hi => by
      have : (hd 0 0).data.toList = List.replicate 64 0 := rfl
      rw [this, List.getElem?_replicate, if_pos hi]
    refine ⟨⟨0, hz 0 (by omega)⟩, fun t ht => ?_, fun t ht => ?_⟩
    · rw [be_zero]; exact hz _ (by omega)
    · rw [be_zero]; exact hz _ (by omega)
  · have e : hdL n len = 74 :: (be 8 n ++ be 4 len) := by simp [hdL, h0]
    have hg : ∀ i x, (74 :: (be 8 n ++ be 4 len))[i]? = some x → (hd n len).data.toList[i]? = some x := fun i x hx => by
      have hi : i < 13 := by have := (List.getElem?_eq_some_iff.1 hx).1; simpa [be_len] using this
      exact fill_get _ i x (by rw [e]; exact hx) (by omega)
    refine ⟨⟨74, hg 0 74 rfl⟩, fun t ht => ?_, fun t ht => ?_⟩
    · refine hg _ _ ?_
      rw [Nat.add_comm 1 t, List.getElem?_cons_succ, List.getElem?_append_left (by rw [be_len]; exact ht)]
      exact be_get 8 n t ht
    · refine hg _ _ ?_
      rw [show 9 + t = (8 + t) + 1 by omega, List.getElem?_cons_succ, List.getElem?_append_right (by rw [be_len]; omega), be_len, show 8 + t - 8 = t by omega]
      exact be_get 4 len t ht
theorem setc_other {w : World} {p j : Nat} {v : Value} {k : Nat} (h : k ≠ p) : (w.setCell ⟨p, j, none⟩ v).heap[k]? = w.heap[k]? := Below.heap_setCell _ _ _ _ (fun c => h (by simpa using c))
theorem setc_blk {w : World} {p j : Nat} {v : Value} {cs : Array Value} {t : TypeId} {z : Nat × Nat} (h : w.heap[p]? = some (.cells cs t z)) : (w.setCell ⟨p, j, none⟩ v).heap[p]? = some (.cells (cs.setIfInBounds j v) t z) := by
  simp [World.setCell, Array.getElem?_modify, h]
set_option maxRecDepth 100000 in
set_option maxHeartbeats 4000000 in
theorem headAt_any {w W : World} {d : Nat} {S : DS} {rs : List Res} (h : ED w W d S rs) (hu : S.up = true) (h4 : 4 ≤ S.N) (k n len : Nat) (hk : k < S.N) (hn : n < 9223372036854775808) (hlen : len < 4294967296) (hz : n = 0 → len = 0) (hs : S.now k = hd n len) (hroom : len ≤ (S.N - 2) / 2 * 64) :
    Calls Try.prog 68 #[.pointer (some ⟨d, 0, none⟩), .int .i64 (k : Int)] W fun e W' => e = .returned (.tuple #[.agg #[.int .i64 (n : Int), .int .i64 (len : Int)], .bool true]) ∧ ED w W' d S rs ∧ Below W.heap.size W W' := by
  obtain ⟨W0, hW0⟩ : ∃ W0, W0 = W.alloc (.cells #[.int .i64 0, .int .i64 0] 89) := ⟨_, rfl⟩
  have hb0 : W0.heap[W.heap.size]? = some (.cells #[.int .i64 0, .int .i64 0] 89 (0, 0)) := by rw [hW0]; exact heap_alloc_new _ _
  have hBel0 : Below W.heap.size W W0 := by rw [hW0]; exact bw_alloc _ _
  have KR := (h.new hBel0).read (k : Int)
  rw [now_read hu hk, hs] at KR
  obtain ⟨⟨c0, g0⟩, g1, g2⟩ := hd_get n len hz
  have HG := hide (And.intro g0 (And.intro g1 g2))
  have HN := hide (And.intro hn (And.intro hlen (And.intro hroom (And.intro h4 (hd_size n len)))))
  have HB0 := hide (And.intro hb0 hBel0)
  have HW0 := hide hW0
  have HEW := hide h
  have KS := hide (fun X => sector_any n len hn (by omega) X)
  clear h hu hk hn hlen hz hs hroom h4 g0 g1 g2 hb0 hBel0
  generalize hd n len = s at *
  go_enter Try.func68, Try.ntmps68
  go_wp2_with fail
  rw [← unhide HW0]
  clear hW0
  refine KR.mono ?_
  rintro e W1 ⟨rfl, E1, b1⟩
  have HE1 := hide E1
  have KN := Wi.newReader_any s W1
  clear KR E1
  go_wp2_with fail
  refine KN.mono ?_
  rintro e W2 ⟨rfl, hW2⟩
  have hrd : Wi.RD W2 W1.heap.size s 0 := by rw [hW2]; exact heap_alloc_new _ _
  have b2 : Below W0.heap.size W0 W2 := bw_tr b1 (by rw [hW2]; exact bw_alloc _ _)
  have hlow : W0.heap.size ≤ W1.heap.size := b1.size
  have KB := rbyte_at W1.heap.size 0 s W2 c0 hrd (by have := (unhide HN).2.2.2.2; omega) (unhide HG).1
  have HB2 := hide (And.intro b2 hlow)
  clear hrd b1 b2 hlow hW2 KN
  go_wp2_with fail
  refine KB.mono ?_
  rintro e W3 ⟨rfl, r3, f3⟩
  have KT := takeHigh_any W1.heap.size (0 + 1) 8 n s W3 r3 (by have := (unhide HN).2.2.2.2; omega) (by omega) (by have := (unhide HN).1; omega) (unhide HN).1 (unhide HG).2.1
  have HF3 := hide f3
  clear KB r3 f3
  go_wp2_with fail
  refine KT.mono ?_
  rintro e W4 ⟨rfl, r4, f4⟩
  have KU := takeHigh_any W1.heap.size (0 + 1 + 8) 4 len s W4 r4 (by have := (unhide HN).2.2.2.2; omega) (by omega) (by have := (unhide HN).2.1; omega) (by have := (unhide HN).2.1; omega) (unhide HG).2.2
  have HF4 := hide ((unhide HF3).tr f4)
  clear KT r4 f4
  go_wp2_with fail
  refine KU.mono ?_
  rintro e W5 ⟨rfl, r5, f5⟩
  have b5 : Below W0.heap.size W0 W5 := wi_below (unhide HB2).1 ((unhide HF4).tr f5) (unhide HB2).2
  clear KU r5 f5
  obtain ⟨X, hX⟩ : ∃ X, X = W5.alloc (.cells #[.int .i64 (n : Int), .int .i64 (len : Int)] 89) := ⟨_, rfl⟩
  have bX : Below W0.heap.size W0 X := bw_tr b5 (by rw [hX]; exact bw_alloc _ _)
  have hX9 : X.heap[W5.heap.size]? = some (.cells #[.int .i64 (n : Int), .int .i64 (len : Int)] 89 (0, 0)) := by rw [hX]; exact heap_alloc_new _ _
  have hX4 : X.heap[W.heap.size]? = some (.cells #[.int .i64 0, .int .i64 0] 89 (0, 0)) := (bX.block _ (lt_of_blk (unhide HB0).1)).trans (unhide HB0).1
  have hne : W5.heap.size ≠ W.heap.size := by have := b5.size; have := lt_of_blk (unhide HB0).1; omega
  have HX := hide hX
  have HC : Hid (∀ Y, Below X.heap.size X Y → (Y.cell? ⟨W5.heap.size, 0, none⟩ = some (.int .i64 (n : Int)) ∧ Y.cell? ⟨W5.heap.size, 1, none⟩ = some (.int .i64 (len : Int))) ∧ Y.cell? ⟨W.heap.size, 0, none⟩ = some (.int .i64 0) ∧ Y.cell? ⟨W.heap.size, 1, none⟩ = some (.int .i64 0) ∧ Y.frozen? ⟨W.heap.size, 0, none⟩ = false ∧ Y.frozen? ⟨W.heap.size, 1, none⟩ = false ∧
      (((Y.setCell ⟨W.heap.size, 0, none⟩ (.int .i64 (n : Int))).setCell ⟨W.heap.size, 1, none⟩ (.int .i64 (len : Int))).cell? ⟨W5.heap.size, 0, none⟩ = some (.int .i64 (n : Int)) ∧ ((Y.setCell ⟨W.heap.size, 0, none⟩ (.int .i64 (n : Int))).setCell ⟨W.heap.size, 1, none⟩ (.int .i64 (len : Int))).cell? ⟨W5.heap.size, 1, none⟩ = some (.int .i64 (len : Int))) ∧
      (((Y.setCell ⟨W.heap.size, 0, none⟩ (.int .i64 (n : Int))).setCell ⟨W.heap.size, 1, none⟩ (.int .i64 (len : Int))).cell? ⟨W.heap.size, 0, none⟩ = some (.int .i64 (n : Int)) ∧ ((Y.setCell ⟨W.heap.size, 0, none⟩ (.int .i64 (n : Int))).setCell ⟨W.heap.size, 1, none⟩ (.int .i64 (len : Int))).cell? ⟨W.heap.size, 1, none⟩ = some (.int .i64 (len : Int))) ∧
      (ED w ((Y.setCell ⟨W.heap.size, 0, none⟩ (.int .i64 (n : Int))).setCell ⟨W.heap.size, 1, none⟩ (.int .i64 (len : Int))) d S rs ∧ Below W.heap.size W ((Y.setCell ⟨W.heap.size, 0, none⟩ (.int .i64 (n : Int))).setCell ⟨W.heap.size, 1, none⟩ (.int .i64 (len : Int))))) := fun Y hY => by
    have q9 : Y.heap[W5.heap.size]? = _ := (hY.block _ (lt_of_blk hX9)).trans hX9
    have q4 : Y.heap[W.heap.size]? = _ := (hY.block _ (lt_of_blk hX4)).trans hX4
    have s9 : ((Y.setCell ⟨W.heap.size, 0, none⟩ (.int .i64 (n : Int))).setCell ⟨W.heap.size, 1, none⟩ (.int .i64 (len : Int))).heap[W5.heap.size]? = _ := ((setc_other hne).trans (setc_other hne)).trans q9
    have s4 := setc_blk (j := 1) (v := .int .i64 (len : Int)) (setc_blk (j := 0) (v := .int .i64 (n : Int)) q4)
    have hBW : Below W.heap.size W ((Y.setCell ⟨W.heap.size, 0, none⟩ (.int .i64 (n : Int))).setCell ⟨W.heap.size, 1, none⟩ (.int .i64 (len : Int))) :=
      Fr.toBase (S := [W.heap.size]) (bw_tr (unhide HB0).2 (bw_tr bX hY)) (((Fr.refl [W.heap.size] Y).setCell (Or.inr (by simp)) _).setCell (Or.inr (by simp)) _) (by simp)
    refine ⟨⟨by simp [World.cell?, q9], by simp [World.cell?, q9]⟩, by simp [World.cell?, q4], by simp [World.cell?, q4], by simp [World.frozen?, q4], by simp [World.frozen?, q4], ⟨by simp [World.cell?, s9], by simp [World.cell?, s9]⟩, ⟨by simp [World.cell?, s4], by simp [World.cell?, s4]⟩, (unhide HEW).new hBW, hBW⟩
  have HR := hide (fun Y (hY : Below X.heap.size X Y) => room_any ((unhide HEW).new (bw_tr (unhide HB0).2 (bw_tr bX hY))) (by have := (unhide HN).2.2.2.1; omega))
  obtain ⟨⟨y0, y1⟩, _⟩ := unhide HC X (Below.refl _ _)
  obtain ⟨⟨x0, x1⟩, _⟩ := unhide HC X.drew (bw_drew _)
  have hrm : (len : Int) ≤ (((S.N - 2) / 2 * 64 : Nat) : Int) := by have := (unhide HN).2.2.1; omega
  generalize (S.N - 2) / 2 * 64 = rm at *
  clear bX hX9 hX4 hne b5
  go_upto_region 5 with fail
  rw [← unhide HX]
  clear hX
  go_region_held3 (fun w' : World => w'.cell? ⟨W5.heap.size, 0, none⟩ = some (.int .i64 (n : Int)) ∧ w'.cell? ⟨W5.heap.size, 1, none⟩ = some (.int .i64 (len : Int))) (first | exact ⟨y0, y1⟩ | exact ⟨x0, x1⟩ | exact ⟨v0, v1⟩ | exact v6) (first
    | (go_at_call 81; with_reducible refine (unhide KS _).mono ?_; rintro e z1 ⟨rfl, b1⟩; obtain ⟨⟨v0, v1⟩, v2, v3, v4, v5, v6, v7, v8⟩ := unhide HC z1 (bw_tr (bw_drew _) b1))
    | (go_at_call 58; with_reducible refine (unhide HR _ (bw_drew _)).mono ?_; rintro e z0 ⟨rfl, rfl⟩))
  all_goals
    have HE := hide v8
    obtain ⟨u0, u1⟩ := v7
    clear v8 v6 v0 v1 v2 v3 v4 v5 KS HC HR b1
    go_wp2_with fail
    generalize hZ : World.setCell (World.setCell _ _ _) _ _ = Z at *
    refine bodyPost_ret (v := .tuple #[.agg #[.int .i64 (n : Int), .int .i64 (len : Int)], .bool true]) (by simp [results, Try.results68, go_sem, u0, u1]) rfl ⟨rfl, unhide HE⟩

end Go.Proofs.Ytimhjheigejjmab
