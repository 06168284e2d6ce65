/- Texts joined: TrS TeA TeB TtF TrX. -/
import Derived.Test.YtaanacnloljlmaaGreatDoorTrR
import Derived.Test.YtaanacnloljlmaaGreatDoorIxRefD
import Derived.Test.YtaanacnloljlmaaGreatDoorZ06
/- What the laws of layer 8 ask besides: TreeSize, Beyond, SameNode, has, names. -/
namespace Go.Proofs.YtaanacnloljlmaaGreatDoor
open Go.RowKit Go.Maps

set_option maxHeartbeats 400000 in
theorem beyond8 (b : Nat) (n : Nat) (c : Nat) (w : World) (hn : n ≤ 1125899906842624) (h0 : w.cell? ⟨b, 0, none⟩ = some (.int .i64 n)) :
    Calls Tryz.prog 6 #[.slice (some ⟨b, 0, none⟩) 1 c] w fun e w' => e = .returned (.bool (decide (262144 < n))) ∧ w' = w := by
  by_cases hb : 262144 < n
  · rw [decide_eq_true hb]
    go_enter Tryz.func6, Tryz.ntmps6
    go_wp2
    refine wp_loop_rounds 1 ?_
    rw [rounds_succ]
    go_wp2
    go_ret
    exact ⟨rfl, rfl⟩
  · rw [decide_eq_false hb]
    go_enter Tryz.func6, Tryz.ntmps6
    go_wp2
    refine wp_loop_rounds 2 ?_
    rw [rounds_succ]
    go_wp2
    rw [rounds_succ]
    go_wp2
    go_ret
    exact ⟨rfl, rfl⟩
set_option maxRecDepth 100000 in
set_option maxHeartbeats 2000000 in
theorem treeSize_any {w : World} {v : Value} {T : List Nd} (h : Trd w v T) :
    Calls Tryz.prog 7 #[.agg #[v]] w fun e w' => ∃ n : Nat, e = .returned (.int .i64 (n : Int)) ∧ n ≤ 1125899906842624 ∧ Below w.heap.size w w' := by
  obtain ⟨a, c, rfl⟩ := h.slice
  have hl := h.len
  obtain ⟨-, h2⟩ := h.at
  have HC : Hid (∀ i, i < T.length → ∃ b o ua ul uc, a = some ⟨b, o, none⟩ ∧ ul ≤ 140737488355328 ∧ ∀ W, Below w.heap.size w W → W.cell? ⟨b, o + i * 4 + 3, none⟩ = some (.slice ua ul uc)) := fun i hi => by
    obtain ⟨b, o, e, h3⟩ := h2 (by omega)
    obtain ⟨u, k1, k2⟩ := h3 w (Below.refl _ _) i hi
    obtain ⟨ua, uc, rfl⟩ := nums_slice k2
    have hB : b < w.heap.size := lt_of_cell k1.c3
    exact ⟨b, o, ua, _, uc, e, h.unl _ (ndAt_mem hi), fun W hW => (k1.bw hB hW).c3⟩
  obtain ⟨W0, hW0⟩ : ∃ W0, W0 = bxw w (.slice a T.length c) := ⟨_, rfl⟩
  have hb0 : Below w.heap.size w W0 := by rw [hW0]; exact bwA _ _
  have c0 : W0.cell? ⟨w.heap.size, 0, none⟩ = some (.slice a T.length c) := by rw [hW0]; exact bx_cell (Below.refl _ _)
  have HW : Hid (W0 = w.alloc (.cells #[.slice a T.length c] 24)) := hW0
  have hlI : (T.length : Int) ≤ 140737488355328 := by omega
  have HL := hide hl
  clear h h2 hW0 hl
  generalize T.length = N at *
  go_enter Tryz.func7, Tryz.ntmps7
  go_upto_region 2 with fail
  rw [← unhide HW]
  go_wp2_with fail
  go_loopw [3, 4] (fun nv iv wr => ∃ (n i : Nat), nv = .int .i64 (n : Int) ∧ iv = .int .i64 (i : Int) ∧ i ≤ N ∧ Hid (n ≤ 281474976710656) ∧ wr = W0) (fun _ iv _ => (N - (intOf iv)).toNat)
  case atStart => exact ⟨N, 0, rfl, rfl, by omega, by have := unhide HL; unfold Hid; omega, rfl⟩
  case round =>
    obtain ⟨n, i, rfl, rfl, hiN, hn, rfl⟩ := hrel
    by_cases hlt : i < N
    · have q1 : (i : Int) < (N : Int) := by omega
      have q0 : (0 : Int) ≤ (i : Int) := by omega
      by_cases hs : n ≤ 262144
      · have hs1 : (n : Int) ≤ 262144 := by omega
        obtain ⟨b, o, ua, ul, uc, rfl, hul, hc⟩ := unhide HC i hlt
        have c3 := hc _ hb0
        have hul1 : (ul : Int) ≤ 140737488355328 := by omega
        have HS := hide (And.intro hs hul)
        clear hs hul hc
        go_wp2_with fail
        go_roundw
        case rel => exact ⟨n + ul, i + 1, by go_num, by go_num, by omega, by have := unhide HS; unfold Hid; omega, by trivial⟩
        case measure => simp [intOf]; omega
      · have hs1 : decide ((n : Int) ≤ 262144) = false := decide_eq_false (by omega)
        clear hs
        go_wp2_with fail
        go_ret
        exact ⟨n, rfl, by have := unhide hn; omega, hb0⟩
    · obtain rfl : i = N := by omega
      go_wp2_with fail
      go_ret
      exact ⟨n, rfl, by have := unhide hn; omega, hb0⟩
set_option maxHeartbeats 2000000 in
theorem sameNode_eq {w : World} {u u' : Value} {n : Nd} (h : Nums w u n.un) (h' : Nums w u' n.un) :
    Calls Tryz.prog 261 #[.agg #[.int .i64 n.pub, .int .i64 n.mem, .int .i64 n.ep, u], .agg #[.int .i64 n.pub, .int .i64 n.mem, .int .i64 n.ep, u']] w fun e w' => e = .returned (.bool true) ∧ Below w.heap.size w w' := by
  obtain ⟨a, c, rfl⟩ := nums_slice h
  obtain ⟨a', c', rfl⟩ := nums_slice h'
  have hb : Below w.heap.size w ((w.alloc (.cells #[.int .i64 n.pub, .int .i64 n.mem, .int .i64 n.ep, .slice a n.un.length c] 88)).alloc (.cells #[.int .i64 n.pub, .int .i64 n.mem, .int .i64 n.ep, .slice a' n.un.length c'] 88)) := (bwA _ _).alloc (by simp) _
  have K := hide (same_any _ _ _ _ _ (h.bw hb) (h'.bw hb))
  rw [decide_eq_true rfl] at K
  clear h h'
  generalize n.un.length = L at *
  go_enter Tryz.func261, Tryz.ntmps261
  go_wp2_with fail
  refine (unhide K).mono ?_
  rintro e w1 ⟨rfl, b1⟩
  have b2 := bw_tr hb b1
  go_wp2
  go_ret
  exact ⟨rfl, b2⟩
/-- Does a node of a resolution name the leaf i? -/
def nm1 (T : List Nd) (i : Nat) (z : Int) : Bool := z == 2 * (i : Int) || (z % 2 == 1 && wi ((2 * i : Nat) : Int) z && !decide ((i : Int) ∈ (ndAt T z.toNat).un))
def nms (T : List Nd) (l : List Int) (i : Nat) : Nat := (l.filter (nm1 T i)).length
theorem nms_snoc (T : List Nd) (l : List Int) (z : Int) (i : Nat) : nms T (l ++ [z]) i = nms T l i + (if nm1 T i z = true then 1 else 0) := by
  unfold nms; rw [List.filter_append, List.length_append]; cases h : nm1 T i z <;> simp [h]
end Go.Proofs.YtaanacnloljlmaaGreatDoor

/- The contracts of SameNodes and SameTree, of two trees that read alike; the document's free and rising. -/
namespace Go.Proofs.YtaanacnloljlmaaGreatDoor
open Go.RowKit Go.Maps

set_option maxRecDepth 100000 in
set_option maxHeartbeats 4000000 in
theorem sameNodes_eq {w : World} {v v' : Value} {T : List Nd} (h : Trd w v T) (h' : Trd w v' T) :
    Calls Tryz.prog 170 #[v, v'] w fun e w' => e = .returned (.bool true) ∧ Below w.heap.size w w' := by
  obtain ⟨a, c, rfl⟩ := h.slice
  obtain ⟨a', c', rfl⟩ := h'.slice
  obtain ⟨-, h2⟩ := h.at
  obtain ⟨-, h2'⟩ := h'.at
  have HC : Hid (∀ i, i < T.length → ∃ b o b' o' p m e ua ul uc ua' uc', a = some ⟨b, o, none⟩ ∧ a' = some ⟨b', o', none⟩ ∧ ∀ W, Below w.heap.size w W → (W.cell? ⟨b, o + i * 4, none⟩ = some (.int .i64 p) ∧ W.cell? ⟨b, o + i * 4 + 1, none⟩ = some (.int .i64 m) ∧ W.cell? ⟨b, o + i * 4 + 2, none⟩ = some (.int .i64 e) ∧ W.cell? ⟨b, o + i * 4 + 3, none⟩ = some (.slice ua ul uc)) ∧
      (W.cell? ⟨b', o' + i * 4, none⟩ = some (.int .i64 p) ∧ W.cell? ⟨b', o' + i * 4 + 1, none⟩ = some (.int .i64 m) ∧ W.cell? ⟨b', o' + i * 4 + 2, none⟩ = some (.int .i64 e) ∧ W.cell? ⟨b', o' + i * 4 + 3, none⟩ = some (.slice ua' ul uc')) ∧
      Calls Tryz.prog 261 #[.agg #[.int .i64 p, .int .i64 m, .int .i64 e, .slice ua ul uc], .agg #[.int .i64 p, .int .i64 m, .int .i64 e, .slice ua' ul uc']] W fun x w' => x = .returned (.bool true) ∧ Below W.heap.size W w') := fun i hi => by
    obtain ⟨b, o, e, h3⟩ := h2 (by omega)
    obtain ⟨b', o', e', h3'⟩ := h2' (by omega)
    obtain ⟨u, k1, k2⟩ := h3 w (Below.refl _ _) i hi
    obtain ⟨u', k1', k2'⟩ := h3' w (Below.refl _ _) i hi
    obtain ⟨ua, uc, rfl⟩ := nums_slice k2
    obtain ⟨ua', uc', rfl⟩ := nums_slice k2'
    have hB : b < w.heap.size := lt_of_cell k1.c3
    have hB' : b' < w.heap.size := lt_of_cell k1'.c3
    exact ⟨b, o, b', o', (ndAt T i).pub, (ndAt T i).mem, (ndAt T i).ep, ua, (ndAt T i).un.length, uc, ua', uc', e, e', fun W hW => ⟨⟨(k1.bw hB hW).c0, (k1.bw hB hW).c1, (k1.bw hB hW).c2, (k1.bw hB hW).c3⟩, ⟨(k1'.bw hB' hW).c0, (k1'.bw hB' hW).c1, (k1'.bw hB' hW).c2, (k1'.bw hB' hW).c3⟩, sameNode_eq (k2.bw hW) (k2'.bw hW)⟩⟩
  have hlI : (T.length : Int) ≤ 140737488355328 := by have := h.len; omega
  clear h h' h2 h2'
  generalize T.length = N at *
  go_enter Tryz.func170, Tryz.ntmps170
  go_wp2_with fail
  go_loopw [13] (fun iv wr => ∃ (i : Nat), iv = .int .i64 (i : Int) ∧ i ≤ N ∧ Below w.heap.size w wr) (fun iv _ => (N - (intOf iv)).toNat)
  case atStart => exact ⟨0, rfl, by omega, Below.refl _ _⟩
  case round =>
    obtain ⟨i, rfl, hi, hbel⟩ := hrel
    by_cases hin : i < N
    · obtain ⟨b, o, b', o', p, m, e, ua, ul, uc, ua', uc', rfl, rfl, hc⟩ := unhide HC i hin
      have q1 : (i : Int) < (N : Int) := by omega
      have q0 : (0 : Int) ≤ (i : Int) := by omega
      obtain ⟨x0, y0, -⟩ := hc _ hbel
      obtain ⟨x1, y1, K⟩ := hc _ hbel.drew
      have HC2 := hide hc
      have HK := hide K
      obtain ⟨c0, c1, c2, c3⟩ := x0
      obtain ⟨d0, d1, d2, d3⟩ := y0
      obtain ⟨e0, e1, e2, e3⟩ := x1
      obtain ⟨f0, f1, f2, f3⟩ := y1
      clear hc K
      go_wp2_with fail
      first
      | go_region_held3 (fun w' : World => w'.cell? ⟨b, o + i * 4, none⟩ = some (.int .i64 p) ∧ w'.cell? ⟨b, o + i * 4 + 1, none⟩ = some (.int .i64 m) ∧ w'.cell? ⟨b, o + i * 4 + 2, none⟩ = some (.int .i64 e) ∧ w'.cell? ⟨b, o + i * 4 + 3, none⟩ = some (.slice ua ul uc) ∧
          w'.cell? ⟨b', o' + i * 4, none⟩ = some (.int .i64 p) ∧ w'.cell? ⟨b', o' + i * 4 + 1, none⟩ = some (.int .i64 m) ∧ w'.cell? ⟨b', o' + i * 4 + 2, none⟩ = some (.int .i64 e) ∧ w'.cell? ⟨b', o' + i * 4 + 3, none⟩ = some (.slice ua' ul uc'))
          (first | with_reducible exact ⟨c0, c1, c2, c3, d0, d1, d2, d3⟩ | with_reducible exact ⟨e0, e1, e2, e3, f0, f1, f2, f3⟩ | with_reducible exact ⟨g0, g1, g2, g3, h0, h1, h2, h3⟩) (first
          | (go_at_call 261; refine (unhide HK).mono ?_; rintro x w5 ⟨rfl, E5⟩; have b5 := bw_tr hbel.drew E5; obtain ⟨⟨g0, g1, g2, g3⟩, ⟨h0, h1, h2, h3⟩, -⟩ := unhide HC2 w5 b5) | fail)
      | fail
      all_goals
        clear E5 g0 g1 g2 g3 h0 h1 h2 h3
        go_wp2_with fail
        go_roundw
        case rel => exact ⟨i + 1, by go_num, by omega, b5⟩
        case measure => simp [intOf]; omega
    · obtain rfl : i = N := by omega
      go_wp2_with fail
      go_ret
      exact ⟨rfl, hbel⟩
set_option maxHeartbeats 1000000 in
theorem sameTree_eq {w : World} {v v' : Value} {T : List Nd} (h : Trd w v T) (h' : Trd w v' T) :
    Calls Tryz.prog 34 #[.agg #[v], .agg #[v']] w fun e w' => e = .returned (.bool true) ∧ Below w.heap.size w w' := by
  obtain ⟨a, c, rfl⟩ := h.slice
  obtain ⟨a', c', rfl⟩ := h'.slice
  obtain ⟨W0, hW0⟩ : ∃ W0, W0 = (w.alloc (.cells #[.slice a T.length c] 24)).alloc (.cells #[.slice a' T.length c'] 24) := ⟨_, rfl⟩
  have hb0 : Below w.heap.size w W0 := by rw [hW0]; exact (bwA _ _).alloc (by simp) _
  have K := hide (sameNodes_eq (h.bw hb0) (h'.bw hb0))
  have HW : Hid (W0 = (w.alloc (.cells #[.slice a T.length c] 24)).alloc (.cells #[.slice a' T.length c'] 24)) := hW0
  clear hW0 h h'
  generalize T.length = N at *
  go_enter Tryz.func34, Tryz.ntmps34
  go_wp2_with fail
  rw [← unhide HW]
  refine (unhide K).mono ?_
  rintro x w1 ⟨rfl, b1⟩
  go_wp2
  go_ret
  exact ⟨rfl, bw_tr hb0 b1⟩
theorem fb_hit9 {T : List Nd} {i : Nat} (hi : i < nlv T) (hno : ∀ j, j < i → pos (ndAt T (2 * j)) = true) (h : pos (ndAt T (2 * i)) = false) : fb T = i := by
  unfold fb
  rw [List.findIdx_eq (by rw [lvs_len]; exact hi)]
  refine ⟨by simpa [lvs] using h, fun j hj => by simpa [lvs] using hno j hj⟩
theorem fb_none9 {T : List Nd} (hno : ∀ j, j < nlv T → pos (ndAt T (2 * j)) = true) : fb T = nlv T := by
  have e : (lvs T).findIdx (fun n => !pos n) = (lvs T).length := by
    rw [List.findIdx_eq_length]
    intro n hn
    simp only [lvs, List.mem_map, List.mem_range] at hn
    obtain ⟨j, hj, rfl⟩ := hn
    simpa using hno j hj
  unfold fb; rw [e, lvs_len]
end Go.Proofs.YtaanacnloljlmaaGreatDoor

/- The document's rising: numbers with one more. -/
namespace Go.Proofs.YtaanacnloljlmaaGreatDoor
open Go.RowKit Go.Maps

def rsU (n : Int) (l : List Int) : List Int := l.takeWhile (fun z => !decide (n < z)) ++ n :: l.dropWhile (fun z => !decide (n < z))
theorem rsU_all {n : Int} {l : List Int} (h : ∀ z ∈ l, z ≤ n) : rsU n l = l ++ [n] := by
  induction l with
  | nil => rfl
  | cons a l ih =>
    have ha : (!decide (n < a)) = true := by simp; have := h a (by simp); omega
    have := ih (fun z hz => h z (List.mem_cons_of_mem _ hz))
    unfold rsU at *
    rw [List.takeWhile_cons, if_pos ha, List.dropWhile_cons, if_pos ha, List.cons_append, this, List.cons_append]
theorem rsU_first {n x : Int} {l : List Int} (h : ∀ z ∈ l, z ≤ n) (hx : n < x) : rsU n (l ++ [x]) = l ++ [n, x] := by
  induction l with
  | nil =>
    have : (!decide (n < x)) = false := by simp [hx]
    simp [rsU, this]
  | cons a l ih =>
    have ha : (!decide (n < a)) = true := by simp; have := h a (by simp); omega
    have := ih (fun z hz => h z (List.mem_cons_of_mem _ hz))
    unfold rsU at *
    rw [List.cons_append, List.takeWhile_cons, if_pos ha, List.dropWhile_cons, if_pos ha, List.cons_append, this, List.cons_append]
theorem rsU_more {n x : Int} {l : List Int} (h : ∃ z ∈ l, n < z) : rsU n (l ++ [x]) = rsU n l ++ [x] := by
  induction l with
  | nil => obtain ⟨z, hz, _⟩ := h; cases hz
  | cons a l ih =>
    unfold rsU at *
    by_cases ha : n < a
    · have hb : (!decide (n < a)) = false := by simp [ha]
      simp [hb]
    · have hb : (!decide (n < a)) = true := by simp; omega
      obtain ⟨z, hz, hnz⟩ := h
      have := ih ⟨z, by rcases List.mem_cons.1 hz with rfl | c; exact absurd hnz ha; exact c, hnz⟩
      rw [List.cons_append, List.takeWhile_cons, if_pos hb, List.dropWhile_cons, if_pos hb, List.cons_append, this, List.takeWhile_cons, if_pos hb, List.dropWhile_cons, if_pos hb]
      simp
theorem rsU_len (n : Int) (l : List Int) : (rsU n l).length = l.length + 1 := by
  unfold rsU
  have h : (l.takeWhile (fun z => !decide (n < z)) ++ l.dropWhile (fun z => !decide (n < z))).length = l.length := by rw [List.takeWhile_append_dropWhile]
  simp only [List.length_append, List.length_cons] at h ⊢
  omega
theorem rsU_ins {n : Int} {l : List Int} (h : n ∉ l) : rsU n l = insU n l := by
  unfold rsU insU
  have e : ∀ l : List Int, n ∉ l → l.takeWhile (fun z => !decide (n < z)) = l.takeWhile (fun z => decide (z < n)) ∧ l.dropWhile (fun z => !decide (n < z)) = l.dropWhile (fun z => decide (z < n)) := by
    intro l
    induction l with
    | nil => intro _; exact ⟨rfl, rfl⟩
    | cons a l ih =>
      intro hn
      simp at hn
      have := ih hn.2
      have hb : (!decide (n < a)) = decide (a < n) := by
        by_cases c : a < n
        · simp [c]; omega
        · have : n < a := by have := hn.1; omega
          simp [c, this]
      rw [List.takeWhile_cons, List.dropWhile_cons, List.takeWhile_cons, List.dropWhile_cons, hb, this.1, this.2]
      exact ⟨rfl, rfl⟩
  rw [(e l h).1, (e l h).2]
end Go.Proofs.YtaanacnloljlmaaGreatDoor

/- The contract of TreeSize: what it answers where it is not beyond. -/
namespace Go.Proofs.YtaanacnloljlmaaGreatDoor
open Go.RowKit Go.Maps

def usum (T : List Nd) : Nat := (T.map (·.un.length)).sum
theorem usum_mem {T : List Nd} {n : Nd} (h : n ∈ T) : n.un.length ≤ usum T := by
  unfold usum
  induction T with
  | nil => cases h
  | cons a T ih =>
    simp only [List.map_cons, List.sum_cons]
    rcases List.mem_cons.1 h with rfl | h
    · omega
    · have := ih h; omega
theorem usum_take {T : List Nd} {i : Nat} (h : i < T.length) : usum (T.take (i + 1)) = usum (T.take i) + (ndAt T i).un.length := by
  unfold usum
  rw [List.take_add_one, ndAt_of h]
  simp
set_option maxRecDepth 100000 in
set_option maxHeartbeats 2000000 in
theorem treeSize2_any {w : World} {v : Value} {T : List Nd} (h : Trd w v T) :
    Calls Tryz.prog 7 #[.agg #[v]] w fun e w' => ∃ n : Nat, e = .returned (.int .i64 (n : Int)) ∧ n ≤ 1125899906842624 ∧ (n ≤ 262144 → n = T.length + usum T) ∧ Below w.heap.size w w' := by
  obtain ⟨a, c, rfl⟩ := h.slice
  have hl := h.len
  obtain ⟨-, h2⟩ := h.at
  have HC : Hid (∀ i, i < T.length → ∃ b o ua ul uc, a = some ⟨b, o, none⟩ ∧ ul = (ndAt T i).un.length ∧ ul ≤ 140737488355328 ∧ ∀ W, Below w.heap.size w W → W.cell? ⟨b, o + i * 4 + 3, none⟩ = some (.slice ua ul uc)) := fun i hi => by
    obtain ⟨b, o, e, h3⟩ := h2 (by omega)
    obtain ⟨u, k1, k2⟩ := h3 w (Below.refl _ _) i hi
    obtain ⟨ua, uc, rfl⟩ := nums_slice k2
    have hB : b < w.heap.size := lt_of_cell k1.c3
    exact ⟨b, o, ua, _, uc, e, rfl, h.unl _ (ndAt_mem hi), fun W hW => (k1.bw hB hW).c3⟩
  obtain ⟨W0, hW0⟩ : ∃ W0, W0 = bxw w (.slice a T.length c) := ⟨_, rfl⟩
  have hb0 : Below w.heap.size w W0 := by rw [hW0]; exact bwA _ _
  have c0 : W0.cell? ⟨w.heap.size, 0, none⟩ = some (.slice a T.length c) := by rw [hW0]; exact bx_cell (Below.refl _ _)
  have HW : Hid (W0 = w.alloc (.cells #[.slice a T.length c] 24)) := hW0
  have hlI : (T.length : Int) ≤ 140737488355328 := by omega
  have HL := hide hl
  obtain ⟨N, hN⟩ : ∃ N, N = T.length := ⟨_, rfl⟩
  rw [← hN] at HC c0 HW hlI HL ⊢
  have HN := hide hN
  clear h h2 hW0 hl hN
  go_enter Tryz.func7, Tryz.ntmps7
  go_upto_region 2 with fail
  rw [← unhide HW]
  go_wp2_with fail
  go_loopw [3, 4] (fun nv iv wr => ∃ (n i : Nat), nv = .int .i64 (n : Int) ∧ iv = .int .i64 (i : Int) ∧ i ≤ N ∧ Hid (n ≤ 281474976710656 ∧ n = N + usum (T.take i)) ∧ wr = W0) (fun _ iv _ => (N - (intOf iv)).toNat)
  case atStart => exact ⟨N, 0, rfl, rfl, by omega, ⟨by have := unhide HL; omega, by simp [usum]⟩, rfl⟩
  case round =>
    obtain ⟨n, i, rfl, rfl, hiN, hn, rfl⟩ := hrel
    by_cases hlt : i < N
    · have q1 : (i : Int) < (N : Int) := by omega
      have q0 : (0 : Int) ≤ (i : Int) := by omega
      by_cases hs : n ≤ 262144
      · have hs1 : (n : Int) ≤ 262144 := by omega
        obtain ⟨b, o, ua, ul, uc, rfl, hue, hul, hc⟩ := unhide HC i hlt
        have c3 := hc _ hb0
        have hul1 : (ul : Int) ≤ 140737488355328 := by omega
        have HX : Hid (n + ul ≤ 281474976710656 ∧ n + ul = N + usum (T.take (i + 1))) := by
          refine ⟨by omega, ?_⟩
          rw [usum_take (by rw [← unhide HN]; exact hlt), ← hue, (unhide hn).2]
          omega
        clear hs hul hc hue hn
        go_wp2_with fail
        go_roundw
        case rel => exact ⟨n + ul, i + 1, by go_num, by go_num, by omega, HX, by trivial⟩
        case measure => simp [intOf]; omega
      · have hs1 : decide ((n : Int) ≤ 262144) = false := decide_eq_false (by omega)
        have HS := hide hs
        clear hs
        go_wp2_with fail
        go_ret
        exact ⟨n, rfl, by have := unhide hn; omega, fun q => absurd q (unhide HS), hb0⟩
    · obtain rfl : i = N := by omega
      go_wp2_with fail
      go_ret
      refine ⟨n, rfl, by have := unhide hn; omega, fun _ => ?_, hb0⟩
      have := (unhide hn).2
      rw [List.take_of_length_le (by have := unhide HN; omega)] at this
      exact this
end Go.Proofs.YtaanacnloljlmaaGreatDoor

/- What follows of plain trees: a tree stays one; a resolution covers who is below. -/
namespace Go.Proofs.YtaanacnloljlmaaGreatDoor
open Go.RowKit Go.Maps

theorem wi_of {i x : Nat} (hi : i < 8) (hx : x < 15) : wi ((2 * i : Nat) : Int) (x : Nat) = (decide (spF (x : Nat) ≤ (i : Nat)) && decide ((i : Nat) ≤ spT (x : Nat))) := by
  have h := List.all_eq_true.1 fin_wi x (List.mem_range.2 hx)
  have h := List.all_eq_true.1 h i (List.mem_range.2 hi)
  simpa using h
theorem nms_nil (T : List Nd) (i : Nat) : nms T [] i = 0 := rfl
theorem nms_app (T : List Nd) (a b : List Int) (i : Nat) : nms T (a ++ b) i = nms T a i + nms T b i := by unfold nms; rw [List.filter_append, List.length_append]
theorem nms_cons (T : List Nd) (z : Int) (b : List Int) (i : Nat) : nms T (z :: b) i = (if nm1 T i z = true then 1 else 0) + nms T b i := by
  unfold nms; rw [List.filter_cons]; split <;> simp; omega
/-- Doubled numbers name their own leaves. -/
theorem nms_un (T : List Nd) (i : Nat) : ∀ l : List Int, l.Pairwise (· < ·) → nms T (l.map (2 * ·)) i = if (i : Int) ∈ l then 1 else 0
  | [], _ => rfl
  | u :: us, h => by
    have hp := List.pairwise_cons.1 h
    rw [List.map_cons, nms_cons, nms_un T i us hp.2]
    have e : nm1 T i (2 * u) = decide (u = (i : Int)) := by
      unfold nm1
      have h1 : (2 * u % 2 == 1) = false := by rw [beq_eq_false_iff_ne]; omega
      rw [h1]
      by_cases c : u = (i : Int)
      · rw [decide_eq_true c, c]; simp
      · rw [decide_eq_false c]; simp; omega
    rw [e]
    by_cases c : u = (i : Int)
    · have : (i : Int) ∉ us := fun hm => by have := hp.1 _ hm; omega
      simp [c, this]
    · have c' : ¬ (i : Int) = u := fun h => c h.symm
      simp [c, c']
/-- The resolution of a node names each member below it once, and nobody else. -/
theorem covers8 {T : List Nd} (ok : Ok T) {i : Nat} (hi : i < nlv T) (hp : pos (ndAt T (2 * i)) = true) : ∀ x, x < T.length → nms T (rsl T x) i = if wi ((2 * i : Nat) : Int) (x : Nat) = true then 1 else 0 := by
  obtain ⟨g1, g2, g3, g4, g5⟩ := ok.wd.facts
  rw [g2]
  have hpos : ∀ x, x < 2 * nlv T - 1 → pos (ndAt T x) = true → nms T (rsl T x) i = if wi ((2 * i : Nat) : Int) (x : Nat) = true then 1 else 0 := fun x hx hpx => by
    obtain ⟨⟨s1, s2, s3, s4⟩, _⟩ := span_of g1 hx
    rw [rsl_pos hpx, nms_cons]
    rcases ndM_un (ok.nd x (by omega)) with e | ⟨ho, _, e⟩
    · rw [e, List.map_nil, nms_nil, Nat.add_zero]
      congr 1
      unfold nm1
      rw [Int.toNat_natCast, e]
      simp only [List.not_mem_nil, decide_false, Bool.not_false, Bool.and_true]
      rcases Nat.mod_two_eq_zero_or_one x with c | c
      · have h1 : ((x : Nat) : Int) % 2 = 0 := by omega
        have hs := s4.resolve_left (by omega)
        rw [wi_of (by omega) (by omega), h1]
        by_cases q : x = 2 * i
        · have : ((x : Nat) : Int) = 2 * (i : Int) := by omega
          rw [decide_eq_true (show spF (x : Nat) ≤ (i : Nat) by omega), decide_eq_true (show ((i : Nat) : Int) ≤ spT (x : Nat) by omega)]
          simp [this]
        · have : ¬ ((x : Nat) : Int) = 2 * (i : Int) := by omega
          have hno : ¬ (spF (x : Nat) ≤ (i : Nat) ∧ ((i : Nat) : Int) ≤ spT (x : Nat)) := by omega
          simp only [Bool.and_eq_true, decide_eq_true_eq, Bool.or_eq_true, beq_iff_eq, this, false_or, hno]
          simp
      · have h1 : ((x : Nat) : Int) % 2 = 1 := by omega
        have : ¬ ((x : Nat) : Int) = 2 * (i : Int) := by omega
        rw [h1]
        generalize wi ((2 * i : Nat) : Int) (x : Nat) = wb
        simp [this]
    · obtain ⟨u1, u2⟩ := unM_sorted e
      obtain ⟨_, u4⟩ := unM_bounds e
      rw [nms_un T i _ u1]
      have h1 : ((x : Nat) : Int) % 2 = 1 := by omega
      have hne : ¬ ((x : Nat) : Int) = 2 * (i : Int) := by omega
      have e2 : nm1 T i (x : Nat) = (wi ((2 * i : Nat) : Int) (x : Nat) && !decide ((i : Int) ∈ (ndAt T x).un)) := by
        unfold nm1; rw [Int.toNat_natCast, h1]
        generalize wi ((2 * i : Nat) : Int) (x : Nat) = wb
        simp [hne]
      rw [e2]
      by_cases hm : (i : Int) ∈ (ndAt T x).un
      · have := u4 _ hm
        have hw : wi ((2 * i : Nat) : Int) (x : Nat) = true := by rw [wi_of (by omega) (by omega)]; simp; omega
        rw [hw]; simp [hm]
      · generalize wi ((2 * i : Nat) : Int) (x : Nat) = wb
        simp [hm]
  refine node_ind g1 (fun x hx ho => ?_) (fun x hx ho i1 i2 => ?_)
  · cases hpx : pos (ndAt T x)
    · rw [rsl_leaf hpx ho, nms_nil]
      obtain ⟨⟨s1, s2, s3, s4⟩, _⟩ := span_of g1 hx
      have hs := s4.resolve_left (by omega)
      rw [if_neg]
      rw [wi_of (by omega) (by omega)]
      simp
      intro q1
      by_cases c : x = 2 * i
      · rw [c, hp] at hpx; cases hpx
      · omega
    · exact hpos x hx hpx
  · cases hpx : pos (ndAt T x)
    · rw [rsl_par g1 hx hpx ho, nms_app, i1, i2]
      obtain ⟨a1, a2, a3, a4, a5, a6, a7, a8, a9, a10, a11⟩ := (span_of g1 hx).2.1 ho
      obtain ⟨⟨b1, b2, b3, _⟩, _⟩ := span_of g1 a5
      obtain ⟨⟨c1, c2, c3, _⟩, _⟩ := span_of g1 a6
      rw [wi_of (by omega) (by omega), wi_of (by omega) (by omega), wi_of (by omega) (by omega)]
      simp only [Bool.and_eq_true, decide_eq_true_eq]
      generalize spF (lN x : Nat) = A at *
      generalize spT (lN x : Nat) = A' at *
      generalize spF (rN x : Nat) = C at *
      generalize spT (rN x : Nat) = C' at *
      generalize spF (x : Nat) = D at *
      generalize spT (x : Nat) = D' at *
      split <;> split <;> split <;> omega
    · exact hpos x hx hpx
theorem sd_of {n i j : Nat} (hn : n ∈ sizes) (hi : i < n) (hj : j < n) : ((sdN n i).filter fun s => wi ((2 * j : Nat) : Int) (s : Nat)).length = if i = j then 0 else 1 := by
  have h := List.all_eq_true.1 fin_sd n hn
  have h := List.all_eq_true.1 h i (List.mem_range.2 hi)
  have h := List.all_eq_true.1 h j (List.mem_range.2 hj)
  simpa using h
theorem keepF_nil (x : Int) : keepF [] x = true := by unfold keepF; simp
theorem tgt_nil (T : List Nd) (i : Nat) : tgt T i [] = oth T i := by
  unfold tgt
  have : ∀ l : List Int, l.filter (keepF []) = l := fun l => List.filter_eq_self.2 (fun a _ => keepF_nil a)
  simp [this]
/-- The targets of a leaf name each other member once. -/
theorem covers_all {T : List Nd} (ok : Ok T) {i j : Nat} (hi : i < nlv T) (hj : j < nlv T) (hp : pos (ndAt T (2 * j)) = true) : nms T (oth T i).flatten j = if i = j then 0 else 1 := by
  obtain ⟨g1, g2, g3, g4, g5⟩ := ok.wd.facts
  obtain ⟨d1, d2, d3, d4, d5, d6⟩ := up_of g1 hi
  rw [← sd_of g1 hi hj]
  unfold oth prs
  have key : ∀ (us ss : List Nat), us.length = ss.length → (∀ s ∈ ss, s < T.length) → nms T ((((us.zip ss).map fun p => (p.1, rsl T p.2)).filter fun p => !p.2.isEmpty).map (·.2)).flatten j = (ss.filter fun s => wi ((2 * j : Nat) : Int) (s : Nat)).length := by
    intro us
    induction us with
    | nil =>
      intro ss h _
      have : ss = [] := List.eq_nil_of_length_eq_zero (by simpa using h.symm)
      subst this; rfl
    | cons u us ih =>
      intro ss h hs
      cases ss with
      | nil => simp at h
      | cons s ss =>
        have h1 := ih ss (by simpa using h) (fun y hy => hs y (by simp [hy]))
        have hc := covers8 ok hj hp s (hs s (by simp))
        simp only [List.zip_cons_cons, List.map_cons, List.filter_cons]
        by_cases e : rsl T s = []
        · rw [e] at hc ⊢
          rw [nms_nil] at hc
          simp only [List.isEmpty_nil, Bool.not_true, Bool.false_eq_true, if_false]
          rw [h1]
          have : wi ((2 * j : Nat) : Int) (s : Nat) = false := by
            cases q : wi ((2 * j : Nat) : Int) (s : Nat)
            · rfl
            · rw [q] at hc; simp at hc
          rw [this]; rfl
        · have e' : (!(rsl T s).isEmpty) = true := by simp [e]
          rw [if_pos e', List.map_cons, List.flatten_cons, nms_app, hc, h1]
          by_cases q : wi ((2 * j : Nat) : Int) (s : Nat) = true
          · rw [if_pos q, if_pos q, List.length_cons]; omega
          · rw [if_neg q, if_neg q]; omega
  exact key _ _ d3 (fun s hs => by have := d6 s hs; omega)
end Go.Proofs.YtaanacnloljlmaaGreatDoor
