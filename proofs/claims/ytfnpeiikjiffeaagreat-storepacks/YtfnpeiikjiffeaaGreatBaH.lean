/- Texts joined: JnD JnE JnF. -/
import Derived.Test.YtfnpeiikjiffeaaGreatBaG
import Derived.Test.YtfnpeiikjiffeaaGreatWiRdD
/- Contracts of package journal: takeHighFirst, headAt. -/
namespace Go.Proofs.YtfnpeiikjiffeaaGreat
open Go.RowKit Go.Maps

theorem tbyte_some {l : List UInt8} {k : Nat} {c : UInt8} (h : l[k]? = some c) : Wi.tbyte l k = some (.int .i64 (c.toNat : Int), k + 1) := by simp [Wi.tbyte, h]
theorem rbyte_at (b k : Nat) (s : ByteArray) (w : World) (c : UInt8) (h : Wi.RD w b s k) (hs : s.size ≤ 140737488355328) (hc : s.data.toList[k]? = some c) :
    Calls Tryz.prog 103 #[.pointer (some ⟨b, 0, none⟩)] w fun e w' => e = .returned (.tuple #[.int .i64 (c.toNat : Int), .int .i64 0]) ∧ Wi.RD w' b s (k + 1) ∧ Wi.Fr [b] w w' := by
  have K := Wi.rByte_any b k s w h hs
  rw [tbyte_some hc] at K
  refine K.mono ?_
  rintro e w' ⟨hf, rfl, hr⟩
  exact ⟨rfl, hr, hf⟩
set_option maxRecDepth 100000 in
set_option maxHeartbeats 2000000 in
theorem takeHigh_any (b j k n : Nat) (s : ByteArray) (w : World) (h : Wi.RD w b s j) (hs : s.size ≤ 140737488355328) (hk : k ≤ 8) (hn : n < 256 ^ k) (hn2 : n < 9223372036854775808) (hb : ∀ t, t < k → s.data.toList[j + t]? = some (UInt8.ofNat (n / 256 ^ (k - 1 - t) % 256))) :
    Calls Tryz.prog 104 #[.pointer (some ⟨b, 0, none⟩), .int .i64 (k : Int)] w fun e w' => e = .returned (.int .i64 (n : Int)) ∧ Wi.RD w' b s (j + k) ∧ Wi.Fr [b] w w' := by
  have H0 : Hid (Wi.RD w b s (j + 0) ∧ Wi.Fr [b] w w) := ⟨h, Wi.Fr.refl _ _⟩
  have e0 : n / 256 ^ (k - 0) = 0 := by rw [Nat.sub_zero]; exact Nat.div_eq_of_lt hn
  have HN := hide (And.intro hs (And.intro hk (And.intro hn2 (And.intro hb e0))))
  have hk8 : k ≤ 140737488355328 := by omega
  clear h hs hk hn hn2 hb e0
  go_enter Tryz.func104, Tryz.ntmps104
  go_wp2_with fail
  go_loopw [5, 9] (fun nv tv wr => ∃ t a : Nat, t ≤ k ∧ tv = .int .i64 (t : Int) ∧ nv = .int .i64 (a : Int) ∧ Hid (a = n / 256 ^ (k - t) ∧ Wi.RD wr b s (j + t) ∧ Wi.Fr [b] w wr)) (fun _ tv _ => (k - intOf tv).toNat)
  case atStart => exact ⟨0, 0, by omega, rfl, rfl, (unhide HN).2.2.2.2.symm, unhide H0⟩
  case round =>
    clear H0
    obtain ⟨t, a, ht, rfl, rfl, HR⟩ := hrel
    by_cases hlt : t < k
    · have hb := (unhide HN).2.2.2.1 t hlt
      have KB := rbyte_at b (j + t) s wr _ (unhide HR).2.1 (unhide HN).1 hb
      have hc : (UInt8.ofNat (n / 256 ^ (k - 1 - t) % 256)).toNat = n / 256 ^ (k - 1 - t) % 256 := by
        rw [UInt8.toNat_ofNat']; exact Nat.mod_eq_of_lt (Nat.mod_lt _ (by decide))
      rw [hc] at KB
      have hst := div_step n k t hlt
      have hc8 : n / 256 ^ (k - 1 - t) % 256 < 256 := Nat.mod_lt _ (by decide)
      have hle : n / 256 ^ (k - (t + 1)) < 9223372036854775808 := Nat.lt_of_le_of_lt (Nat.div_le_self _ _) (unhide HN).2.2.1
      rw [hst, ← (unhide HR).1] at hle
      rw [← (unhide HR).1] at hst
      generalize n / 256 ^ (k - 1 - t) % 256 = c at *
      have ob := or_byte a c hle hc8
      have ec : ((a * 256 : Nat) : Int) = (a : Int) * 256 := by omega
      rw [ec] at ob
      have HF := hide (And.intro hst (unhide HR).2.2)
      have g1 : (t : Int) < (k : Int) := by omega
      have g2 : IntKind.i64.wrap ((a : Int) * 256) = (a : Int) * 256 := wrap_i64 (by omega) (by omega)
      have g3 : (a : Int) * 256 ≤ 9223372036854775807 := by omega
      generalize hz : ((a * 256 + c : Nat) : Int) = z at *
      have HZ := hide hz
      clear hb hc hst HR hle hz ec
      go_wp2_with fail
      refine KB.mono ?_
      rintro e w2 ⟨rfl, hr, hf⟩
      have HE : Hid (a * 256 + c = n / 256 ^ (k - (t + 1)) ∧ Wi.RD w2 b s (j + (t + 1)) ∧ Wi.Fr [b] w w2) := ⟨(unhide HF).1.symm, by rw [← Nat.add_assoc]; exact hr, (unhide HF).2.tr hf⟩
      clear KB hr hf HF
      go_wp2_with fail
      go_roundw
      case rel => exact ⟨t + 1, a * 256 + c, by omega, by go_num, by rw [unhide HZ], HE⟩
      case measure => simp only [intOf]; omega
    · obtain rfl : k = t := by omega
      have e : a = n := by rw [(unhide HR).1, Nat.sub_self, Nat.pow_zero, Nat.div_one]
      subst e
      clear hlt
      go_wp2_with fail
      go_ret
      exact ⟨rfl, (unhide HR).2⟩

end Go.Proofs.YtfnpeiikjiffeaaGreat

/- Contracts of package journal: headAt. -/
namespace Go.Proofs.YtfnpeiikjiffeaaGreat
open Go.RowKit Go.Maps

theorem be_zero (k t : Nat) : UInt8.ofNat (0 / 256 ^ (k - 1 - t) % 256) = 0 := by simp
theorem hd_get (n len : Nat) (h : n = 0 → len = 0) : (∃ c, (hd n len).data.toList[0]? = some c) ∧ (∀ t, t < 8 → (hd n len).data.toList[1 + t]? = some (UInt8.ofNat (n / 256 ^ (8 - 1 - t) % 256))) ∧ (∀ t, t < 4 → (hd n len).data.toList[9 + t]? = some (UInt8.ofNat (len / 256 ^ (4 - 1 - t) % 256))) := by
  by_cases h0 : n = 0
  · have hl := h h0
    subst h0
    subst hl
    have hz : ∀ i, i < 64 → (hd 0 0).data.toList[i]? = some 0 := fun i hi => by
      have : (hd 0 0).data.toList = List.replicate 64 0 := rfl
      rw [this, List.getElem?_replicate, if_pos hi]
    refine ⟨⟨0, hz 0 (by omega)⟩, fun t ht => ?_, fun t ht => ?_⟩
    · rw [be_zero]; exact hz _ (by omega)
    · rw [be_zero]; exact hz _ (by omega)
  · have e : hdL n len = 74 :: (be 8 n ++ be 4 len) := by simp [hdL, h0]
    have hg : ∀ i x, (74 :: (be 8 n ++ be 4 len))[i]? = some x → (hd n len).data.toList[i]? = some x := fun i x hx => by
      have hi : i < 13 := by have := (List.getElem?_eq_some_iff.1 hx).1; simpa [be_len] using this
      exact fill_get _ i x (by rw [e]; exact hx) (by omega)
    refine ⟨⟨74, hg 0 74 rfl⟩, fun t ht => ?_, fun t ht => ?_⟩
    · refine hg _ _ ?_
      rw [Nat.add_comm 1 t, List.getElem?_cons_succ, List.getElem?_append_left (by rw [be_len]; exact ht)]
      exact be_get 8 n t ht
    · refine hg _ _ ?_
      rw [show 9 + t = (8 + t) + 1 by omega, List.getElem?_cons_succ, List.getElem?_append_right (by rw [be_len]; omega), be_len, show 8 + t - 8 = t by omega]
      exact be_get 4 len t ht
theorem setc_other {w : World} {p j : Nat} {v : Value} {k : Nat} (h : k ≠ p) : (w.setCell ⟨p, j, none⟩ v).heap[k]? = w.heap[k]? := Below.heap_setCell _ _ _ _ (fun c => h (by simpa using c))
theorem setc_blk {w : World} {p j : Nat} {v : Value} {cs : Array Value} {t : TypeId} {z : Nat × Nat} (h : w.heap[p]? = some (.cells cs t z)) : (w.setCell ⟨p, j, none⟩ v).heap[p]? = some (.cells (cs.setIfInBounds j v) t z) := by
  simp [World.setCell, Array.getElem?_modify, h]
set_option maxRecDepth 100000 in
set_option maxHeartbeats 4000000 in
theorem headAt_any {w W : World} {d : Nat} {S : DS} {rs : List Res} (h : ED w W d S rs) (hu : S.up = true) (h4 : 4 ≤ S.N) (k n len : Nat) (hk : k < S.N) (hn : n < 9223372036854775808) (hlen : len < 4294967296) (hz : n = 0 → len = 0) (hs : S.now k = hd n len) (hroom : len ≤ (S.N - 2) / 2 * 64) :
    Calls Tryz.prog 84 #[.pointer (some ⟨d, 0, none⟩), .int .i64 (k : Int)] W fun e W' => e = .returned (.tuple #[.agg #[.int .i64 (n : Int), .int .i64 (len : Int)], .bool true]) ∧ ED w W' d S rs ∧ Below W.heap.size W W' := by
  obtain ⟨W0, hW0⟩ : ∃ W0, W0 = W.alloc (.cells #[.int .i64 0, .int .i64 0] 111) := ⟨_, rfl⟩
  have hb0 : W0.heap[W.heap.size]? = some (.cells #[.int .i64 0, .int .i64 0] 111 (0, 0)) := by rw [hW0]; exact heap_alloc_new _ _
  have hBel0 : Below W.heap.size W W0 := by rw [hW0]; exact bw_alloc _ _
  have KR := (h.new hBel0).read (k : Int)
  rw [now_read hu hk, hs] at KR
  obtain ⟨⟨c0, g0⟩, g1, g2⟩ := hd_get n len hz
  have HG := hide (And.intro g0 (And.intro g1 g2))
  have HN := hide (And.intro hn (And.intro hlen (And.intro hroom (And.intro h4 (hd_size n len)))))
  have HB0 := hide (And.intro hb0 hBel0)
  have HW0 := hide hW0
  have HEW := hide h
  have KS := hide (fun X => sector_any n len hn (by omega) X)
  clear h hu hk hn hlen hz hs hroom h4 g0 g1 g2 hb0 hBel0
  generalize hd n len = s at *
  go_enter Tryz.func84, Tryz.ntmps84
  go_wp2_with fail
  rw [← unhide HW0]
  clear hW0
  refine KR.mono ?_
  rintro e W1 ⟨rfl, E1, b1⟩
  have HE1 := hide E1
  have KN := Wi.newReader_any s W1
  clear KR E1
  go_wp2_with fail
  refine KN.mono ?_
  rintro e W2 ⟨rfl, hW2⟩
  have hrd : Wi.RD W2 W1.heap.size s 0 := by rw [hW2]; exact heap_alloc_new _ _
  have b2 : Below W0.heap.size W0 W2 := bw_tr b1 (by rw [hW2]; exact bw_alloc _ _)
  have hlow : W0.heap.size ≤ W1.heap.size := b1.size
  have KB := rbyte_at W1.heap.size 0 s W2 c0 hrd (by have := (unhide HN).2.2.2.2; omega) (unhide HG).1
  have HB2 := hide (And.intro b2 hlow)
  clear hrd b1 b2 hlow hW2 KN
  go_wp2_with fail
  refine KB.mono ?_
  rintro e W3 ⟨rfl, r3, f3⟩
  have KT := takeHigh_any W1.heap.size (0 + 1) 8 n s W3 r3 (by have := (unhide HN).2.2.2.2; omega) (by omega) (by have := (unhide HN).1; omega) (unhide HN).1 (unhide HG).2.1
  have HF3 := hide f3
  clear KB r3 f3
  go_wp2_with fail
  refine KT.mono ?_
  rintro e W4 ⟨rfl, r4, f4⟩
  have KU := takeHigh_any W1.heap.size (0 + 1 + 8) 4 len s W4 r4 (by have := (unhide HN).2.2.2.2; omega) (by omega) (by have := (unhide HN).2.1; omega) (by have := (unhide HN).2.1; omega) (unhide HG).2.2
  have HF4 := hide ((unhide HF3).tr f4)
  clear KT r4 f4
  go_wp2_with fail
  refine KU.mono ?_
  rintro e W5 ⟨rfl, r5, f5⟩
  have b5 : Below W0.heap.size W0 W5 := wi_below (unhide HB2).1 ((unhide HF4).tr f5) (unhide HB2).2
  clear KU r5 f5
  obtain ⟨X, hX⟩ : ∃ X, X = W5.alloc (.cells #[.int .i64 (n : Int), .int .i64 (len : Int)] 111) := ⟨_, rfl⟩
  have bX : Below W0.heap.size W0 X := bw_tr b5 (by rw [hX]; exact bw_alloc _ _)
  have hX9 : X.heap[W5.heap.size]? = some (.cells #[.int .i64 (n : Int), .int .i64 (len : Int)] 111 (0, 0)) := by rw [hX]; exact heap_alloc_new _ _
  have hX4 : X.heap[W.heap.size]? = some (.cells #[.int .i64 0, .int .i64 0] 111 (0, 0)) := (bX.block _ (lt_of_blk (unhide HB0).1)).trans (unhide HB0).1
  have hne : W5.heap.size ≠ W.heap.size := by have := b5.size; have := lt_of_blk (unhide HB0).1; omega
  have HX := hide hX
  have HC : Hid (∀ Y, Below X.heap.size X Y → (Y.cell? ⟨W5.heap.size, 0, none⟩ = some (.int .i64 (n : Int)) ∧ Y.cell? ⟨W5.heap.size, 1, none⟩ = some (.int .i64 (len : Int))) ∧ Y.cell? ⟨W.heap.size, 0, none⟩ = some (.int .i64 0) ∧ Y.cell? ⟨W.heap.size, 1, none⟩ = some (.int .i64 0) ∧ Y.frozen? ⟨W.heap.size, 0, none⟩ = false ∧ Y.frozen? ⟨W.heap.size, 1, none⟩ = false ∧
      (((Y.setCell ⟨W.heap.size, 0, none⟩ (.int .i64 (n : Int))).setCell ⟨W.heap.size, 1, none⟩ (.int .i64 (len : Int))).cell? ⟨W5.heap.size, 0, none⟩ = some (.int .i64 (n : Int)) ∧ ((Y.setCell ⟨W.heap.size, 0, none⟩ (.int .i64 (n : Int))).setCell ⟨W.heap.size, 1, none⟩ (.int .i64 (len : Int))).cell? ⟨W5.heap.size, 1, none⟩ = some (.int .i64 (len : Int))) ∧
      (((Y.setCell ⟨W.heap.size, 0, none⟩ (.int .i64 (n : Int))).setCell ⟨W.heap.size, 1, none⟩ (.int .i64 (len : Int))).cell? ⟨W.heap.size, 0, none⟩ = some (.int .i64 (n : Int)) ∧ ((Y.setCell ⟨W.heap.size, 0, none⟩ (.int .i64 (n : Int))).setCell ⟨W.heap.size, 1, none⟩ (.int .i64 (len : Int))).cell? ⟨W.heap.size, 1, none⟩ = some (.int .i64 (len : Int))) ∧
      (ED w ((Y.setCell ⟨W.heap.size, 0, none⟩ (.int .i64 (n : Int))).setCell ⟨W.heap.size, 1, none⟩ (.int .i64 (len : Int))) d S rs ∧ Below W.heap.size W ((Y.setCell ⟨W.heap.size, 0, none⟩ (.int .i64 (n : Int))).setCell ⟨W.heap.size, 1, none⟩ (.int .i64 (len : Int))))) := fun Y hY => by
    have q9 : Y.heap[W5.heap.size]? = _ := (hY.block _ (lt_of_blk hX9)).trans hX9
    have q4 : Y.heap[W.heap.size]? = _ := (hY.block _ (lt_of_blk hX4)).trans hX4
    have s9 : ((Y.setCell ⟨W.heap.size, 0, none⟩ (.int .i64 (n : Int))).setCell ⟨W.heap.size, 1, none⟩ (.int .i64 (len : Int))).heap[W5.heap.size]? = _ := ((setc_other hne).trans (setc_other hne)).trans q9
    have s4 := setc_blk (j := 1) (v := .int .i64 (len : Int)) (setc_blk (j := 0) (v := .int .i64 (n : Int)) q4)
    have hBW : Below W.heap.size W ((Y.setCell ⟨W.heap.size, 0, none⟩ (.int .i64 (n : Int))).setCell ⟨W.heap.size, 1, none⟩ (.int .i64 (len : Int))) :=
      Fr.toBase (S := [W.heap.size]) (bw_tr (unhide HB0).2 (bw_tr bX hY)) (((Fr.refl [W.heap.size] Y).setCell (Or.inr (by simp)) _).setCell (Or.inr (by simp)) _) (by simp)
    refine ⟨⟨by simp [World.cell?, q9], by simp [World.cell?, q9]⟩, by simp [World.cell?, q4], by simp [World.cell?, q4], by simp [World.frozen?, q4], by simp [World.frozen?, q4], ⟨by simp [World.cell?, s9], by simp [World.cell?, s9]⟩, ⟨by simp [World.cell?, s4], by simp [World.cell?, s4]⟩, (unhide HEW).new hBW, hBW⟩
  have HR := hide (fun Y (hY : Below X.heap.size X Y) => room_any ((unhide HEW).new (bw_tr (unhide HB0).2 (bw_tr bX hY))) (by have := (unhide HN).2.2.2.1; omega))
  obtain ⟨⟨y0, y1⟩, _⟩ := unhide HC X (Below.refl _ _)
  obtain ⟨⟨x0, x1⟩, _⟩ := unhide HC X.drew (bw_drew _)
  have hrm : (len : Int) ≤ (((S.N - 2) / 2 * 64 : Nat) : Int) := by have := (unhide HN).2.2.1; omega
  generalize (S.N - 2) / 2 * 64 = rm at *
  clear bX hX9 hX4 hne b5
  go_upto_region 5 with fail
  rw [← unhide HX]
  clear hX
  go_region_held3 (fun w' : World => w'.cell? ⟨W5.heap.size, 0, none⟩ = some (.int .i64 (n : Int)) ∧ w'.cell? ⟨W5.heap.size, 1, none⟩ = some (.int .i64 (len : Int))) (first | exact ⟨y0, y1⟩ | exact ⟨x0, x1⟩ | exact ⟨v0, v1⟩ | exact v6) (first
    | (go_at_call 105; with_reducible refine (unhide KS _).mono ?_; rintro e z1 ⟨rfl, b1⟩; obtain ⟨⟨v0, v1⟩, v2, v3, v4, v5, v6, v7, v8⟩ := unhide HC z1 (bw_tr (bw_drew _) b1))
    | (go_at_call 92; with_reducible refine (unhide HR _ (bw_drew _)).mono ?_; rintro e z0 ⟨rfl, rfl⟩))
  all_goals
    have HE := hide v8
    obtain ⟨u0, u1⟩ := v7
    clear v8 v6 v0 v1 v2 v3 v4 v5 KS HC HR b1
    go_wp2_with fail
    generalize hZ : World.setCell (World.setCell _ _ _) _ _ = Z at *
    refine bodyPost_ret (v := .tuple #[.agg #[.int .i64 (n : Int), .int .i64 (len : Int)], .bool true]) (by simp [results, Tryz.results84, go_sem, u0, u1]) rfl ⟨rfl, unhide HE⟩

end Go.Proofs.YtfnpeiikjiffeaaGreat

/- Contracts of package journal: newest. -/
namespace Go.Proofs.YtfnpeiikjiffeaaGreat
open Go.RowKit Go.Maps

/-- Two heads stand in a disk's first sectors. -/
structure Heads (S : DS) (n0 l0 n1 l1 : Nat) : Prop where
  up : S.up = true
  N : 4 ≤ S.N
  h0 : S.now 0 = hd n0 l0
  h1 : S.now 1 = hd n1 l1
  b0 : n0 < 9223372036854775807
  b1 : n1 < 9223372036854775807
  z0 : n0 = 0 → l0 = 0
  z1 : n1 = 0 → l1 = 0
  r0 : l0 ≤ (S.N - 2) / 2 * 64
  r1 : l1 ≤ (S.N - 2) / 2 * 64
  pr : pairB n0 n1 = true
theorem Heads.lens {S : DS} {n0 l0 n1 l1 : Nat} (h : Heads S n0 l0 n1 l1) (ok : S.ok) : l0 < 4294967296 ∧ l1 < 4294967296 := by
  have := ok.n2; have := h.r0; have := h.r1; omega
set_option maxRecDepth 100000 in
set_option maxHeartbeats 4000000 in
theorem newest_any {w W : World} {d : Nat} {S : DS} {rs : List Res} (h : ED w W d S rs) {n0 l0 n1 l1 : Nat} (hh : Heads S n0 l0 n1 l1) :
    Calls Tryz.prog 64 #[.pointer (some ⟨d, 0, none⟩)] W fun e W' => e = .returned (.tuple #[.agg #[.int .i64 ((if n1 < n0 then n0 else n1 : Nat) : Int), .int .i64 ((if n1 < n0 then l0 else l1 : Nat) : Int)], .bool true]) ∧ ED w W' d S rs ∧ Below W.heap.size W W' := by
  obtain ⟨W0, hW0⟩ : ∃ W0, W0 = W.alloc (.cells #[.int .i64 0, .int .i64 0] 111) := ⟨_, rfl⟩
  have hb0 : W0.heap[W.heap.size]? = some (.cells #[.int .i64 0, .int .i64 0] 111 (0, 0)) := by rw [hW0]; exact heap_alloc_new _ _
  have hBel0 : Below W.heap.size W W0 := by rw [hW0]; exact bw_alloc _ _
  obtain ⟨hl0, hl1⟩ := hh.lens h.ok
  have KA := headAt_any (h.new hBel0) hh.up hh.N 0 n0 l0 (by have := hh.N; omega) (by have := hh.b0; omega) hl0 hh.z0 hh.h0 hh.r0
  have KBf := hide (fun (X : World) (hX : ED w X d S rs) => headAt_any hX hh.up hh.N 1 n1 l1 (by have := hh.N; omega) (by have := hh.b1; omega) hl1 hh.z1 hh.h1 hh.r1)
  have KP := hide (fun X => pair_any n0 n1 (by have := hh.b0; omega) (by have := hh.b1; omega) X)
  rw [hh.pr] at KP
  have HEW := hide h
  have HB0 := hide (And.intro hb0 hBel0)
  have HW0 := hide hW0
  obtain ⟨rn, hrn⟩ : ∃ rn, rn = (if n1 < n0 then n0 else n1) := ⟨_, rfl⟩
  obtain ⟨rl, hrl⟩ : ∃ rl, rl = (if n1 < n0 then l0 else l1) := ⟨_, rfl⟩
  rw [← hrn, ← hrl]
  have HRN := hide (And.intro hrn hrl)
  clear h hh hb0 hBel0 hl0 hl1 hrn hrl
  go_enter Tryz.func64, Tryz.ntmps64
  go_wp2_with fail
  rw [← unhide HW0]
  clear hW0
  refine KA.mono ?_
  rintro e W1 ⟨rfl, E1, b1⟩
  obtain ⟨X1, hX1⟩ : ∃ X, X = W1.alloc (.cells #[.int .i64 (n0 : Int), .int .i64 (l0 : Int)] 111) := ⟨_, rfl⟩
  have bX1 : Below W0.heap.size W0 X1 := bw_tr b1 (by rw [hX1]; exact bw_alloc _ _)
  have q1 : X1.heap[W1.heap.size]? = some (.cells #[.int .i64 (n0 : Int), .int .i64 (l0 : Int)] 111 (0, 0)) := by rw [hX1]; exact heap_alloc_new _ _
  have EX1 : ED w X1 d S rs := E1.new (by rw [hX1]; exact bw_alloc _ _)
  have KB := unhide KBf X1 EX1
  have HX1 := hide (And.intro bX1 q1)
  have HX1e := hide hX1
  clear KA E1 b1 bX1 q1 EX1 KBf
  go_wp2_with fail
  rw [← unhide HX1e]
  clear hX1
  refine KB.mono ?_
  rintro e W2 ⟨rfl, E2, b2⟩
  obtain ⟨X2, hX2⟩ : ∃ X, X = W2.alloc (.cells #[.int .i64 (n1 : Int), .int .i64 (l1 : Int)] 111) := ⟨_, rfl⟩
  have b2' : Below X1.heap.size X1 X2 := bw_tr b2 (by rw [hX2]; exact bw_alloc _ _)
  have q2 : X2.heap[W2.heap.size]? = some (.cells #[.int .i64 (n1 : Int), .int .i64 (l1 : Int)] 111 (0, 0)) := by rw [hX2]; exact heap_alloc_new _ _
  have q1 : X2.heap[W1.heap.size]? = _ := (b2'.block _ (lt_of_blk (unhide HX1).2)).trans (unhide HX1).2
  have q0 : X2.heap[W.heap.size]? = _ := (b2'.block _ (Nat.lt_of_lt_of_le (lt_of_blk (unhide HB0).1) (unhide HX1).1.size)).trans (((unhide HX1).1.block _ (lt_of_blk (unhide HB0).1)).trans (unhide HB0).1)
  have hBW : Below W.heap.size W X2 := bw_tr (unhide HB0).2 (bw_tr (unhide HX1).1 b2')
  have c0 : X2.cell? ⟨W.heap.size, 0, none⟩ = some (.int .i64 0) := by simp [World.cell?, q0]
  have c1 : X2.cell? ⟨W.heap.size, 1, none⟩ = some (.int .i64 0) := by simp [World.cell?, q0]
  have f0 : X2.frozen? ⟨W.heap.size, 0, none⟩ = false := by simp [World.frozen?, q0]
  have f1 : X2.frozen? ⟨W.heap.size, 1, none⟩ = false := by simp [World.frozen?, q0]
  have c2 : X2.cell? ⟨W1.heap.size, 0, none⟩ = some (.int .i64 (n0 : Int)) := by simp [World.cell?, q1]
  have c3 : X2.cell? ⟨W1.heap.size, 1, none⟩ = some (.int .i64 (l0 : Int)) := by simp [World.cell?, q1]
  have c4 : X2.cell? ⟨W2.heap.size, 0, none⟩ = some (.int .i64 (n1 : Int)) := by simp [World.cell?, q2]
  have c5 : X2.cell? ⟨W2.heap.size, 1, none⟩ = some (.int .i64 (l1 : Int)) := by simp [World.cell?, q2]
  have HZ : Hid (∀ a b : Int, (((X2.setCell ⟨W.heap.size, 0, none⟩ (.int .i64 a)).setCell ⟨W.heap.size, 1, none⟩ (.int .i64 b)).cell? ⟨W.heap.size, 0, none⟩ = some (.int .i64 a) ∧ ((X2.setCell ⟨W.heap.size, 0, none⟩ (.int .i64 a)).setCell ⟨W.heap.size, 1, none⟩ (.int .i64 b)).cell? ⟨W.heap.size, 1, none⟩ = some (.int .i64 b)) ∧ ED w ((X2.setCell ⟨W.heap.size, 0, none⟩ (.int .i64 a)).setCell ⟨W.heap.size, 1, none⟩ (.int .i64 b)) d S rs ∧ Below W.heap.size W ((X2.setCell ⟨W.heap.size, 0, none⟩ (.int .i64 a)).setCell ⟨W.heap.size, 1, none⟩ (.int .i64 b))) := fun a b => by
    have s0 := setc_blk (j := 1) (v := .int .i64 b) (setc_blk (j := 0) (v := .int .i64 a) q0)
    have hB : Below W.heap.size W ((X2.setCell ⟨W.heap.size, 0, none⟩ (.int .i64 a)).setCell ⟨W.heap.size, 1, none⟩ (.int .i64 b)) :=
      Fr.toBase (S := [W.heap.size]) hBW (((Fr.refl [W.heap.size] X2).setCell (Or.inr (by simp)) _).setCell (Or.inr (by simp)) _) (by simp)
    exact ⟨⟨by simp [World.cell?, s0], by simp [World.cell?, s0]⟩, (unhide HEW).new hB, hB⟩
  have HX2 := hide hX2
  clear KB E2 b2 b2' q0 q1 q2 hBW HX1 HX1e
  go_upto_region 3 with fail
  rw [← unhide HX2]
  clear hX2
  go_wp2_with fail
  refine (unhide KP _).mono ?_
  rintro e X2' ⟨rfl, hx⟩
  subst hx
  by_cases hlt : n1 < n0
  · have g : (n1 : Int) < (n0 : Int) := by omega
    obtain ⟨e1, e2⟩ := unhide HRN
    rw [if_pos hlt] at e1 e2
    subst e1
    subst e2
    obtain ⟨⟨u0, u1⟩, HE⟩ := unhide HZ (rn : Int) (rl : Int)
    have HE' := hide HE
    clear HE HZ KP hlt
    go_wp2_with fail
    generalize hZ : World.setCell (World.setCell _ _ _) _ _ = Z at *
    refine bodyPost_ret (v := .tuple #[.agg #[.int .i64 (rn : Int), .int .i64 (rl : Int)], .bool true]) (by simp [results, Tryz.results64, go_sem, u0, u1]) rfl ⟨rfl, unhide HE'⟩
  · have g : ¬ ((n1 : Int) < (n0 : Int)) := by omega
    obtain ⟨e1, e2⟩ := unhide HRN
    rw [if_neg hlt] at e1 e2
    subst e1
    subst e2
    obtain ⟨⟨u0, u1⟩, HE⟩ := unhide HZ (rn : Int) (rl : Int)
    have HE' := hide HE
    clear HE HZ KP hlt
    go_wp2_with fail
    generalize hZ : World.setCell (World.setCell _ _ _) _ _ = Z at *
    refine bodyPost_ret (v := .tuple #[.agg #[.int .i64 (rn : Int), .int .i64 (rl : Int)], .bool true]) (by simp [results, Tryz.results64, go_sem, u0, u1]) rfl ⟨rfl, unhide HE'⟩

end Go.Proofs.YtfnpeiikjiffeaaGreat
