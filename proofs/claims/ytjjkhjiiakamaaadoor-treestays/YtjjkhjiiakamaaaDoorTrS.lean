/- What the laws of layer 8 ask besides: TreeSize, Beyond, SameNode, has, names. -/
import Derived.Test.YtjjkhjiiakamaaaDoorTrR
import Derived.Test.YtjjkhjiiakamaaaDoorIxRefD
namespace Go.Proofs.YtjjkhjiiakamaaaDoor
open Go.RowKit Go.Maps

set_option maxHeartbeats 400000 in
theorem beyond8 (b : Nat) (n : Nat) (c : Nat) (w : World) (hn : n ≤ 1125899906842624) (h0 : w.cell? ⟨b, 0, none⟩ = some (.int .i64 n)) :
    Calls Tryd.prog 8 #[.slice (some ⟨b, 0, none⟩) 1 c] w fun e w' => e = .returned (.bool (decide (262144 < n))) ∧ w' = w := by
  by_cases hb : 262144 < n
  · rw [decide_eq_true hb]
    go_enter Tryd.func8, Tryd.ntmps8
    go_wp2
    refine wp_loop_rounds 1 ?_
    rw [rounds_succ]
    go_wp2
    go_ret
    exact ⟨rfl, rfl⟩
  · rw [decide_eq_false hb]
    go_enter Tryd.func8, Tryd.ntmps8
    go_wp2
    refine wp_loop_rounds 2 ?_
    rw [rounds_succ]
    go_wp2
    rw [rounds_succ]
    go_wp2
    go_ret
    exact ⟨rfl, rfl⟩
set_option maxRecDepth 100000 in
set_option maxHeartbeats 2000000 in
theorem treeSize_any {w : World} {v : Value} {T : List Nd} (h : Trd w v T) :
    Calls Tryd.prog 9 #[.agg #[v]] w fun e w' => ∃ n : Nat, e = .returned (.int .i64 (n : Int)) ∧ n ≤ 1125899906842624 ∧ Below w.heap.size w w' := by
  obtain ⟨a, c, rfl⟩ := h.slice
  have hl := h.len
  obtain ⟨-, h2⟩ := h.at
  have HC : Hid (∀ i, i < T.length → ∃ b o ua ul uc, a = some ⟨b, o, none⟩ ∧ ul ≤ 140737488355328 ∧ ∀ W, Below w.heap.size w W → W.cell? ⟨b, o + i * 4 + 3, none⟩ = some (.slice ua ul uc)) := fun i hi => by
    obtain ⟨b, o, e, h3⟩ := h2 (by omega)
    obtain ⟨u, k1, k2⟩ := h3 w (Below.refl _ _) i hi
    obtain ⟨ua, uc, rfl⟩ := nums_slice k2
    have hB : b < w.heap.size := lt_of_cell k1.c3
    exact ⟨b, o, ua, _, uc, e, h.unl _ (ndAt_mem hi), fun W hW => (k1.bw hB hW).c3⟩
  obtain ⟨W0, hW0⟩ : ∃ W0, W0 = bxw w (.slice a T.length c) := ⟨_, rfl⟩
  have hb0 : Below w.heap.size w W0 := by rw [hW0]; exact bwA _ _
  have c0 : W0.cell? ⟨w.heap.size, 0, none⟩ = some (.slice a T.length c) := by rw [hW0]; exact bx_cell (Below.refl _ _)
  have HW : Hid (W0 = w.alloc (.cells #[.slice a T.length c] 24)) := hW0
  have hlI : (T.length : Int) ≤ 140737488355328 := by omega
  have HL := hide hl
  clear h h2 hW0 hl
  generalize T.length = N at *
  go_enter Tryd.func9, Tryd.ntmps9
  go_upto_region 2 with fail
  rw [← unhide HW]
  go_wp2_with fail
  go_loopw [3, 4] (fun nv iv wr => ∃ (n i : Nat), nv = .int .i64 (n : Int) ∧ iv = .int .i64 (i : Int) ∧ i ≤ N ∧ Hid (n ≤ 281474976710656) ∧ wr = W0) (fun _ iv _ => (N - (intOf iv)).toNat)
  case atStart => exact ⟨N, 0, rfl, rfl, by omega, by have := unhide HL; unfold Hid; omega, rfl⟩
  case round =>
    obtain ⟨n, i, rfl, rfl, hiN, hn, rfl⟩ := hrel
    by_cases hlt : i < N
    · have q1 : (i : Int) < (N : Int) := by omega
      have q0 : (0 : Int) ≤ (i : Int) := by omega
      by_cases hs : n ≤ 262144
      · have hs1 : (n : Int) ≤ 262144 := by omega
        obtain ⟨b, o, ua, ul, uc, rfl, hul, hc⟩ := unhide HC i hlt
        have c3 := hc _ hb0
        have hul1 : (ul : Int) ≤ 140737488355328 := by omega
        have HS := hide (And.intro hs hul)
        clear hs hul hc
        go_wp2_with fail
        go_roundw
        case rel => exact ⟨n + ul, i + 1, by go_num, by go_num, by omega, by have := unhide HS; unfold Hid; omega, by trivial⟩
        case measure => simp [intOf]; omega
      · have hs1 : decide ((n : Int) ≤ 262144) = false := decide_eq_false (by omega)
        clear hs
        go_wp2_with fail
        go_ret
        exact ⟨n, rfl, by have := unhide hn; omega, hb0⟩
    · obtain rfl : i = N := by omega
      go_wp2_with fail
      go_ret
      exact ⟨n, rfl, by have := unhide hn; omega, hb0⟩
set_option maxHeartbeats 2000000 in
theorem sameNode_eq {w : World} {u u' : Value} {n : Nd} (h : Nums w u n.un) (h' : Nums w u' n.un) :
    Calls Tryd.prog 24 #[.agg #[.int .i64 n.pub, .int .i64 n.mem, .int .i64 n.ep, u], .agg #[.int .i64 n.pub, .int .i64 n.mem, .int .i64 n.ep, u']] w fun e w' => e = .returned (.bool true) ∧ Below w.heap.size w w' := by
  obtain ⟨a, c, rfl⟩ := nums_slice h
  obtain ⟨a', c', rfl⟩ := nums_slice h'
  have hb : Below w.heap.size w ((w.alloc (.cells #[.int .i64 n.pub, .int .i64 n.mem, .int .i64 n.ep, .slice a n.un.length c] 46)).alloc (.cells #[.int .i64 n.pub, .int .i64 n.mem, .int .i64 n.ep, .slice a' n.un.length c'] 46)) := (bwA _ _).alloc (by simp) _
  have K := hide (same_any _ _ _ _ _ (h.bw hb) (h'.bw hb))
  rw [decide_eq_true rfl] at K
  clear h h'
  generalize n.un.length = L at *
  go_enter Tryd.func24, Tryd.ntmps24
  go_wp2_with fail
  refine (unhide K).mono ?_
  rintro e w1 ⟨rfl, b1⟩
  have b2 := bw_tr hb b1
  go_wp2
  go_ret
  exact ⟨rfl, b2⟩
set_option maxRecDepth 100000 in
set_option maxHeartbeats 2000000 in
theorem has_any8 {w : World} {v : Value} {l : List Int} (h : Nums w v l) (n : Int) (hl : l.length ≤ 1000) :
    Calls Tryd.prog 25 #[v, .int .i64 n] w fun e w' => e = .returned (.bool (decide (n ∈ l))) ∧ w' = w := by
  obtain ⟨a, c, rfl⟩ := nums_slice h
  have HL : Hid (∀ i z, l[i]? = some z → ∃ g o', a = some ⟨g, o', none⟩ ∧ w.cell? ⟨g, o' + i, none⟩ = some (.int .i64 z)) := fun i z hz => by
    obtain ⟨g, o', cap, e, hc⟩ := h.open (by have := (List.getElem?_eq_some_iff.1 hz).1; omega)
    cases e
    exact ⟨g, o', rfl, hc i z hz⟩
  obtain ⟨M, hM⟩ : ∃ M, M = l.length := ⟨_, rfl⟩
  rw [← hM] at hl ⊢
  have HM := hide hM
  obtain ⟨r, hr⟩ : ∃ r, r = decide (n ∈ l) := ⟨_, rfl⟩
  rw [← hr]
  have HR := hide hr
  have hM1 : (M : Int) ≤ 1000 := by omega
  clear h hM hr
  go_enter Tryd.func25, Tryd.ntmps25
  go_wp2_with fail
  go_loopw [5] (fun iv wr => ∃ i : Nat, iv = .int .i64 (i : Int) ∧ i ≤ M ∧ Hid (n ∉ l.take i) ∧ wr = w) (fun iv _ => (M - (intOf iv)).toNat)
  case atStart => exact ⟨0, rfl, by omega, by simp [Hid], rfl⟩
  case round =>
    obtain ⟨i, rfl, hi, hno, rfl⟩ := hrel
    by_cases hlt : i < M
    · obtain ⟨z, hz⟩ : ∃ z, l[i]? = some z := ⟨_, List.getElem?_eq_getElem (by have := unhide HM; omega)⟩
      obtain ⟨g, o', rfl, c1⟩ := unhide HL i z hz
      have q1 : (i : Int) < (M : Int) := by omega
      have q0 : (0 : Int) ≤ (i : Int) := by omega
      have hz' := hide hz
      clear hz
      by_cases hzn : z = n
      · subst hzn
        obtain rfl : r = true := by rw [unhide HR]; exact decide_eq_true (List.mem_of_getElem? (unhide hz'))
        go_wp2_with fail
        go_ret
        exact ⟨rfl, rfl⟩
      · have e1 : (z == n) = false := by simp [hzn]
        have e2 : decide (z = n) = false := by simp [hzn]
        have hn2 : Hid (n ∉ l.take (i + 1)) := by
          unfold Hid; rw [List.take_add_one, unhide hz']; simp; exact ⟨unhide hno, fun c => hzn c.symm⟩
        go_wp2_with fail
        go_roundw
        case rel => exact ⟨i + 1, by go_num, by omega, hn2, by trivial⟩
        case measure => simp [intOf]; omega
    · obtain rfl : i = M := by omega
      obtain rfl : r = false := by
        rw [unhide HR]; apply decide_eq_false
        have := unhide hno; rw [List.take_of_length_le (by have := unhide HM; omega)] at this; exact this
      go_wp2_with fail
      go_ret
      exact ⟨rfl, rfl⟩
/-- Does a node of a resolution name the leaf i? -/
def nm1 (T : List Nd) (i : Nat) (z : Int) : Bool := z == 2 * (i : Int) || (z % 2 == 1 && wi ((2 * i : Nat) : Int) z && !decide ((i : Int) ∈ (ndAt T z.toNat).un))
def nms (T : List Nd) (l : List Int) (i : Nat) : Nat := (l.filter (nm1 T i)).length
theorem nms_snoc (T : List Nd) (l : List Int) (z : Int) (i : Nat) : nms T (l ++ [z]) i = nms T l i + (if nm1 T i z = true then 1 else 0) := by
  unfold nms; rw [List.filter_append, List.length_append]; cases h : nm1 T i z <;> simp [h]
set_option maxRecDepth 100000 in
set_option maxHeartbeats 4000000 in
theorem names_any {w : World} {v lv : Value} {T : List Nd} {l : List Int} (h : Trd w v T) (hs : T.length ≤ 15) (hu : ∀ n ∈ T, n.un.length ≤ 8) (hlv : Nums w lv l) (hl : l.length ≤ 1000) (hz : ∀ z ∈ l, 0 ≤ z ∧ z ≤ 30 ∧ (z % 2 = 1 → z < (T.length : Int))) (i : Nat) (hi : i ≤ 8) :
    Calls Tryd.prog 22 #[.agg #[v], lv, .int .i64 (i : Int)] w fun e w' => e = .returned (.int .i64 (nms T l i : Nat)) ∧ Below w.heap.size w w' := by
  obtain ⟨a, c, rfl⟩ := h.slice
  obtain ⟨la, lc, rfl⟩ := nums_slice hlv
  obtain ⟨x2, hx2⟩ : ∃ x2, x2 = 2 * i := ⟨_, rfl⟩
  obtain ⟨-, h2⟩ := h.at
  obtain ⟨W0, hW0⟩ : ∃ W0, W0 = bxw w (.slice a T.length c) := ⟨_, rfl⟩
  have hb0 : Below w.heap.size w W0 := by rw [hW0]; exact bwA _ _
  have HB : Hid (∀ W, Below W0.heap.size W0 W → W.cell? ⟨w.heap.size, 0, none⟩ = some (.slice a T.length c) ∧ Below w.heap.size w W) := fun W hW => by subst hW0; exact ⟨bx_cell hW, bx_bel hW⟩
  have HL : Hid (∀ j z, l[j]? = some z → 0 ≤ z ∧ z ≤ 30 ∧ (z % 2 = 1 → z < (T.length : Int)) ∧ ∃ g o', la = some ⟨g, o', none⟩ ∧ ∀ W, Below w.heap.size w W → W.cell? ⟨g, o' + j, none⟩ = some (.int .i64 z)) := fun j z hj => by
    obtain ⟨y1, y2, y3⟩ := hz z (List.mem_of_getElem? hj)
    obtain ⟨g, o', cap, e, hc⟩ := hlv.open (by have := (List.getElem?_eq_some_iff.1 hj).1; omega)
    cases e
    refine ⟨y1, y2, y3, g, o', rfl, fun W hW => ?_⟩
    have hcc := hc j z hj
    rw [hW.cell (p := ⟨g, o' + j, none⟩) (lt_of_cell (a := ⟨g, o' + j, none⟩) hcc)]; exact hcc
  have HU : Hid (∀ y : Nat, y < T.length → ∃ b o u, a = some ⟨b, o, none⟩ ∧ (∀ W, Below w.heap.size w W → W.cell? ⟨b, o + y * 4 + 3, none⟩ = some u) ∧ (∃ ua ul uc, u = .slice ua ul uc) ∧ ∀ W, Below w.heap.size w W → Calls Tryd.prog 25 #[u, .int .i64 (i : Int)] W fun e w' => e = .returned (.bool (decide ((i : Int) ∈ (ndAt T y).un))) ∧ w' = W) := fun y hy => by
    obtain ⟨b, o, e, h3⟩ := h2 (by omega)
    obtain ⟨u, k1, k2⟩ := h3 w (Below.refl _ _) y hy
    have hB : b < w.heap.size := lt_of_cell k1.c3
    obtain ⟨ua, uc, e'⟩ := nums_slice k2
    exact ⟨b, o, u, e, fun W hW => (k1.bw hB hW).c3, ⟨ua, _, uc, e'⟩, fun W hW => has_any8 (k2.bw hW) _ (by have := hu _ (ndAt_mem hy); omega)⟩
  have KW : Hid (∀ W z, 0 ≤ z → z ≤ 30 → Calls Tryd.prog 21 #[.int .i64 (x2 : Int), .int .i64 z] W fun e w' => e = .returned (.bool (wi (x2 : Int) z)) ∧ w' = W) := fun W z h0 h1 => rwithin_any (x2 : Int) z W (by omega) (by omega)
  obtain ⟨M, hM⟩ : ∃ M, M = l.length := ⟨_, rfl⟩
  rw [← hM] at hl ⊢
  have HM := hide hM
  have HD : Hid (∀ z, nm1 T i z = (z == (x2 : Int) || (z % 2 == 1 && wi (x2 : Int) z && !decide ((i : Int) ∈ (ndAt T z.toNat).un)))) := fun z => by unfold nm1; rw [hx2]; simp
  have HW : Hid (W0 = w.alloc (.cells #[.slice a T.length c] 24)) := hW0
  have hM1 : (M : Int) ≤ 1000 := by omega
  have q2 : 2 * (i : Int) = (x2 : Int) := by omega
  have hi8 : (i : Int) ≤ 8 := by omega
  have hs1 : (T.length : Int) ≤ 15 := by omega
  have hr0 : Below W0.heap.size W0 (w.alloc (.cells #[.slice a T.length c] 24)) := by rw [hW0]; exact Below.refl _ _
  clear h hlv h2 hW0 hM hx2 hz hu
  generalize T.length = N at *
  go_enter Tryd.func22, Tryd.ntmps22
  go_wp2_with fail
  go_loopw [7, 8] (fun nv iv wr => ∃ j : Nat, iv = .int .i64 (j : Int) ∧ nv = .int .i64 (nms T (l.take j) i : Nat) ∧ j ≤ M ∧ Hid (nms T (l.take j) i ≤ j) ∧ Below W0.heap.size W0 wr) (fun _ iv _ => (M - (intOf iv)).toNat)
  case atStart => exact ⟨0, rfl, rfl, by omega, by simp [Hid, nms], hr0⟩
  case round =>
    obtain ⟨j, rfl, rfl, hj, hnj, hbel⟩ := hrel
    obtain ⟨c0, hbw⟩ := unhide HB _ hbel
    by_cases hlt : j < M
    · obtain ⟨z, hz⟩ : ∃ z, l[j]? = some z := ⟨_, List.getElem?_eq_getElem (by have := unhide HM; omega)⟩
      obtain ⟨y1, y2, y3, g, o', rfl, hc⟩ := unhide HL j z hz
      have c1 := hc _ hbw
      have hsn : Hid (nms T (l.take (j + 1)) i = nms T (l.take j) i + if nm1 T i z = true then 1 else 0) := by
        unfold Hid; rw [List.take_add_one, hz]; exact nms_snoc T _ z i
      rw [unhide HD z] at hsn
      have hcc : Hid (∀ m, (wr.drewN m).cell? ⟨g, o' + j, none⟩ = some (.int .i64 z)) := fun m => hc _ (below_drewN hbw m)
      have q1 : (j : Int) < (M : Int) := by omega
      have q0 : (0 : Int) ≤ (j : Int) := by omega
      have hnb : ((nms T (l.take j) i : Nat) : Int) ≤ 1000 := by have := unhide hnj; omega
      have HN0 := hide (unhide hnj)
      generalize nms T (l.take j) i = nj at *
      clear hz hc hnj
      by_cases hz2 : z = (x2 : Int)
      · subst hz2
        have hs2 : Hid (nms T (l.take (j + 1)) i = nj + 1) := by unfold Hid; rw [unhide hsn]; simp
        clear hsn y3
        go_wp2_with fail
        go_roundw
        case rel => exact ⟨j + 1, by go_num, by rw [unhide hs2]; go_num, by omega, by rw [unhide hs2]; have := unhide HN0; unfold Hid; omega, hbel⟩
        case measure => simp [intOf]; omega
      · have e1 : (z == (x2 : Int)) = false := by simp [hz2]
        have e2 : decide (z = (x2 : Int)) = false := by simp [hz2]
        have hs2 : Hid (nms T (l.take (j + 1)) i = nj + if (z % 2 == 1 && wi (x2 : Int) z && !decide ((i : Int) ∈ (ndAt T z.toNat).un)) = true then 1 else 0) := by unfold Hid; rw [unhide hsn, e1]; simp
        clear hsn hz2
        by_cases ho : z % 2 = 1
        · have hzN := y3 ho
          obtain ⟨y, rfl⟩ : ∃ y : Nat, z = y := ⟨z.toNat, by omega⟩
          obtain ⟨b, o, u, rfl, hcu, ⟨ua, ul, uc, rfl⟩, hh⟩ := unhide HU y (by omega)
          have cu := hcu _ hbw
          have KH : ∀ m, _ := fun m => hh (wr.drewN m) (below_drewN hbw m)
          have KW2 : ∀ m, _ := fun m => unhide KW (wr.drewN m) (y : Int) y1 y2
          rw [Int.toNat_natCast] at hs2
          have o1 : ((y : Int) % 2 == 1) = true := by simp [ho]
          rw [o1] at hs2
          generalize wi (x2 : Int) (y : Int) = wb at *
          generalize decide ((i : Int) ∈ (ndAt T y).un) = hb at *
          cases wb
          · have hs3 : Hid (nms T (l.take (j + 1)) i = nj) := by unfold Hid; rw [unhide hs2]; simp
            clear hs2 hcu hh
            go_wp2_with fail
            go_quiet (first | (go_at_call 21; exact Calls.quiet_of_same (KW2 _)))
            go_wp2_with fail
            go_roundw
            case rel => exact ⟨j + 1, by go_num, by rw [unhide hs3], by omega, by rw [unhide hs3]; have := unhide HN0; unfold Hid; omega, below_drewN hbel _⟩
            case measure => simp [intOf]; omega
          · cases hb
            · have hs3 : Hid (nms T (l.take (j + 1)) i = nj + 1) := by unfold Hid; rw [unhide hs2]; simp
              clear hs2 hcu hh
              go_wp2_with fail
              go_quiet (first | (go_at_call 21; exact Calls.quiet_of_same (KW2 _)) | (go_at_call 25; exact Calls.quiet_of_same (KH _)))
              go_wp2_with fail
              go_roundw
              case rel => exact ⟨j + 1, by go_num, by rw [unhide hs3]; go_num, by omega, by rw [unhide hs3]; have := unhide HN0; unfold Hid; omega, below_drewN hbel _⟩
              case measure => simp [intOf]; omega
            · have hs3 : Hid (nms T (l.take (j + 1)) i = nj) := by unfold Hid; rw [unhide hs2]; simp
              clear hs2 hcu hh
              go_wp2_with fail
              go_quiet (first | (go_at_call 21; exact Calls.quiet_of_same (KW2 _)) | (go_at_call 25; exact Calls.quiet_of_same (KH _)))
              go_wp2_with fail
              go_roundw
              case rel => exact ⟨j + 1, by go_num, by rw [unhide hs3], by omega, by rw [unhide hs3]; have := unhide HN0; unfold Hid; omega, below_drewN hbel _⟩
              case measure => simp [intOf]; omega
        · obtain ⟨y, rfl⟩ : ∃ y : Nat, z = y := ⟨z.toNat, by omega⟩
          have o1 : ((y : Int) % 2 == 1) = false := by simp [ho]
          have o2 : (y : Int) % 2 = 0 := by omega
          have hs3 : Hid (nms T (l.take (j + 1)) i = nj) := by unfold Hid; rw [unhide hs2, o1]; simp
          clear hs2 o1 ho y3
          go_wp2_with fail
          go_quiet (fail)
          go_wp2_with fail
          go_roundw
          case rel => exact ⟨j + 1, by go_num, by rw [unhide hs3], by omega, by rw [unhide hs3]; have := unhide HN0; unfold Hid; omega, below_drewN hbel _⟩
          case measure => simp [intOf]; omega
    · obtain rfl : j = M := by omega
      have e9 : l.take j = l := List.take_of_length_le (by have := unhide HM; omega)
      rw [e9]
      go_wp2_with fail
      go_ret
      exact ⟨rfl, hbw⟩
end Go.Proofs.YtjjkhjiiakamaaaDoor
