/- IndexPaths: for every two numbers a and b and every number of leaves, the law answers true: what stands above two nodes of a tree meets where Common says, is the same from there on, and the levels rise one by one up to the root. No condition. -/
import Derived.Test.YticljbimbbiedaaDoorIxFrame
import Derived.Test.YticljbimbbiedaaDoorCards
import Derived.Test.YticljbimbbiedaaDoorTie
import Derived.Test.YticljbimbbiedaaDoorIxPathA
import Derived.Test.YticljbimbbiedaaDoorIxSameQ
import Derived.Test.YticljbimbbiedaaDoorIxRefD
import Derived.Deep.RegionWith
import Derived.Deep.CutRange
import Derived.Deep.RegionHeld3
namespace Go.Proofs.YticljbimbbiedaaDoor
open Go.ChangeShapes Go.WideShapes Go.ChangeAt Go.RowKit

theorem com_in {a b L : Int} (h : ¬ com a b L < 0) : inn a L = true ∧ inn b L = true := by
  unfold com at h
  split at h
  · rename_i h2; exact h2
  · omega

/-- All that the law asks of two rows. -/
theorem paths {a b L : Int} (h : ¬ com a b L < 0) : ∃ i k : Nat,
    let X := a :: dir a L; let Y := b :: dir b L; let c := com a b L
    X[i]? = some c ∧ (∀ j z, j < i → X[j]? = some z → z ≠ c) ∧ Y[k]? = some c ∧ (∀ j z, j < k → Y[j]? = some z → z ≠ c) ∧ X.drop i = Y.drop k ∧
    (∀ j l u v, i = j + 1 → k = l + 1 → X[j]? = some u → Y[l]? = some v → u ≠ v) ∧ wi a c = true ∧ wi b c = true ∧ c ≤ 9223372036854775807 := by
  obtain ⟨ha, hb⟩ := com_in h
  have hc : com a b L = comF 31 a b := by unfold com; rw [if_pos ⟨ha, hb⟩]
  obtain ⟨i, h1, h2, h3⟩ := com_find b L hb 31 a ha (room_start a L)
  rw [← hc] at h1 h2
  have hcX := List.mem_of_getElem? h1
  have hci : inn (com a b L) L = true := by
    rcases List.mem_cons.1 hcX with e | e
    · rw [e]; exact ha
    · exact dirF_inn _ _ _ e
  have hcY := row_mem 31 b _ hb (room_start b L) hci h2
  -- the first place in the second row
  have hfirst : ∀ (l : List Int) (c : Int), c ∈ l → ∃ k : Nat, l[k]? = some c ∧ ∀ j z, j < k → l[j]? = some z → z ≠ c := by
    intro l c hm
    induction l with
    | nil => cases hm
    | cons y l ih =>
      by_cases e : y = c
      · exact ⟨0, by simp [e], fun j _ hj => by omega⟩
      · rcases List.mem_cons.1 hm with h | h
        · exact absurd h.symm e
        · obtain ⟨k, k1, k2⟩ := ih h
          refine ⟨k + 1, by simpa using k1, fun j z hj hz => ?_⟩
          cases j with
          | zero => simp at hz; subst hz; exact e
          | succ j => exact k2 j z (by omega) (by simpa using hz)
  obtain ⟨k, k1, k2⟩ := hfirst _ _ hcY
  refine ⟨i, k, h1, fun j z hj hz e => ?_, k1, k2, ?_, ?_, ?_, h2, ?_⟩
  · have := h3 j z hj hz
    rw [e, h2] at this; cases this
  · rw [dir, dir, row_drop 31 a _ i (room_start a L) h1, row_drop 31 b _ k (room_start b L) k1]
  · intro j l u v hi hk hu hv e
    have w1 := h3 j u (by omega) hu
    have w2 := row_wi 31 b hb v (List.mem_of_getElem? hv)
    rw [e] at w1
    rw [w1] at w2; cases w2
  · exact row_wi 31 a ha _ hcX
  · obtain ⟨d, k, m, _, _, e, _, _, h4⟩ := inn_open hci
    omega

theorem bw_tab {w w' : World} (hb : Below w.heap.size w w') (h : Tab w) : Tab w' := h.bw hb
theorem lt_of_cell' {w : World} {a : Addr} {v : Value} (h : w.cell? a = some v) : a.block < w.heap.size := World.block_lt_of_cell? w a h
theorem bw_cell {w w' : World} {a : Addr} {v : Value} (hb : Below w.heap.size w w') (h : w.cell? a = some v) : w'.cell? a = some v := by rw [hb.cell (World.block_lt_of_cell? w a h)]; exact h
theorem ints_form {B : Nat} {w : World} {v : Value} {l : List Int} (h : Ints B w v l) : ∃ p cap, v = .slice p l.length cap := (h.nums).form.1

theorem slice_from (w : World) (g o n cap i : Nat) (hi : i < n) (hc : n ≤ cap) : (Instr.slice 24 (.slice (some ⟨g, o, none⟩) n cap) (some (.int .i64 (i : Int))) none none).run Tryd.prog w = .ok (.slice (some ⟨g, o + i, none⟩) (n - i) (cap - i)) w := by
  have ht : Tryd.prog.underlying 24 = some (.slice (Tryd.prog.elem 24)) := by kernel_rfl
  have he : Tryd.prog.elem 24 = 3 := by kernel_rfl
  have hs : (Go.sizeOf 3).run Tryd.prog w = .ok 1 w := by kernel_rfl
  rw [run_slice_l (P := Tryd.prog) w 24 (some ⟨g, o, none⟩) n cap ht .i64 i (by omega) (by omega), he, hs]
  have hne : ¬ cap = i := by omega
  simp [Result.andThen, sliced, hne, Addr.add]
  try (intro h0; subst h0; simp)

theorem nums_drop {w : World} {g o cap n : Nat} {l : List Int} (hl : n = l.length) (hc : ∀ j z, l[j]? = some z → w.cell? ⟨g, o + j, none⟩ = some (.int .i64 z)) (i : Nat) (hi : i ≤ n) (hcap : n ≤ cap) (hcm : cap ≤ maxLen) :
    Nums w (.slice (some ⟨g, o + i, none⟩) (n - i) (cap - i)) (l.drop i) := by
  refine Or.inr ⟨g, o + i, cap - i, by rw [List.length_drop, hl], by rw [List.length_drop]; omega, by omega, fun j z hj => ?_⟩
  have := hc (i + j) z (by rw [← hj, List.getElem?_drop])
  rw [Nat.add_assoc]; exact this

set_option maxRecDepth 100000 in
set_option maxHeartbeats 20000000 in
theorem IndexPaths_walk (a b y : Int) (w : World) (_a1 : -9223372036854775808 ≤ a) (a2 : a ≤ 9223372036854775807) (_b1 : -9223372036854775808 ≤ b) (b2 : b ≤ 9223372036854775807) (_y1 : -9223372036854775808 ≤ y) (_y2 : y ≤ 9223372036854775807) (hT : Tab w) :
    Calls Tryd.prog 3 #[.int .i64 a, .int .i64 b, .int .i64 y] w fun e w' => e = .returned (.bool true) ∧ Below w.heap.size w w' := by
  have K1 := common_any a b y w a2 b2 hT
  by_cases hc : com a b y < 0
  · generalize com a b y = c at *
    go_enter Tryd.func3, Tryd.ntmps3
    go_wp2_with fail
    refine K1.mono ?_
    rintro e w1 ⟨rfl, c1⟩
    go_wp2_with fail
    refine (alive_any w1 (hT.bw c1)).mono ?_
    rintro e w9 ⟨rfl, hb9⟩
    go_wp2
    go_ret
    exact ⟨rfl, bw_tr c1 hb9⟩
  · obtain ⟨ha, hb⟩ := com_in hc
    obtain ⟨I, J, p1, p2, p3, p4, p5, p6, p7, p8, p9⟩ := paths hc
    have lenA := dirF_len 31 a y
    have lenB := dirF_len 31 b y
    have q1 := row_last 31 a ha (room_start a y)
    have q2 := fun i u v => row_step 31 a i u v (room_start a y)
    have q3 := copF_len 31 a y
    have hrot : rot y = y - 1 := by
      have ht : isT y = true := by unfold inn at ha; cases h : isT y <;> simp_all
      simp [rot, ht]
    have q4 : ∀ z ∈ a :: dir a y, z ≤ 9223372036854775807 := fun z hz => by
      rcases List.mem_cons.1 hz with h | h
      · omega
      · exact dirF_le 31 a y z h
    obtain ⟨X, hX⟩ : ∃ X, X = a :: dir a y := ⟨_, rfl⟩
    obtain ⟨Y, hY⟩ : ∃ Y, Y = b :: dir b y := ⟨_, rfl⟩
    have hXl : X.length = (dirF 31 a y).length + 1 := by rw [hX]; rfl
    have hYl : Y.length = (dirF 31 b y).length + 1 := by rw [hY]; rfl
    have hcl : (cop a y).length + 1 = X.length := by rw [hXl]; unfold cop; omega
    have q1' : X[X.length - 1]? = some (y - 1) := by rw [hXl, Nat.add_sub_cancel, hX]; exact q1
    have q2' : ∀ i u v, X[i]? = some u → X[i + 1]? = some v → lvl v = lvl u + 1 ∧ 0 ≤ lvl u ∧ lvl u < 30 := by rw [hX]; exact q2
    rw [← hX] at p1 p2 p5 p6 q4
    rw [← hY] at p3 p4 p5 p6
    have HP := hide (And.intro p1 (And.intro p2 (And.intro p3 (And.intro p4 (And.intro p5 p6)))))
    have HQ := hide (And.intro q1' (And.intro q2' (And.intro q4 hcl)))
    have HXY := hide (And.intro hX hY)
    have hXb : X.length ≤ 32 := by omega
    have hYb : Y.length ≤ 32 := by omega
    have hX0 : 0 < X.length := by omega
    have hY0 : 0 < Y.length := by omega
    have HW := hide (And.intro p7 p8)
    have HR := hide hrot
    clear p1 p2 p3 p4 p5 p6 p7 p8 q1 q2 q3 q4 q1' q2' hX hY hXl hYl hcl ha hb lenA lenB hrot
    generalize com a b y = c at *
    go_enter Tryd.func3, Tryd.ntmps3
    go_wp2_with fail
    refine K1.mono ?_
    rintro e w1 ⟨rfl, c1⟩
    have hT1 := hT.bw c1
    go_wp2_with fail
    refine (direct_any a y (w1.alloc (.cells #[.int .i64 a] 3)) (hT1.bw ((Below.refl _ _).alloc (Nat.le_refl _) _))).mono ?_
    rintro e w2 ⟨u, rfl, hu, hb2⟩
    have b12 : Below w1.heap.size w1 w2 := bw_tr ((Below.refl _ _).alloc (Nat.le_refl _) _) hb2
    have hone := (one_own w1 a).bw hb2
    have hsz := b12.size
    go_wp2_with (at_builtin; refine wpList_join rfl (.tmp 21) (.tmp 24) rfl w1.heap.size _ _ _ [a] (dir a y) rfl hone rfl hu ?c1 hsz ?nx)
    case c1 => have := (unhide HXY).1; have h : X.length = (dir a y).length + 1 := by rw [this]; rfl
               simp; omega
    case nx =>
      intro xv w3 hxv hb3
      have b13 : Below w1.heap.size w1 w3 := b12.trans hb3
      have e1 : a :: dir a y = X := (unhide HXY).1.symm
      rw [e1] at hxv
      have hT3 := hT1.bw b13
      have bw3 : Below w.heap.size w w3 := bw_tr c1 b13
      clear hu hone hb2 hb3 b12 b13 hsz e1
      go_wp2_with fail
      refine (direct_any b y (w3.alloc (.cells #[.int .i64 b] 3)) (hT3.bw ((Below.refl _ _).alloc (Nat.le_refl _) _))).mono ?_
      rintro e w4 ⟨u, rfl, hu, hb4⟩
      have b34 : Below w3.heap.size w3 w4 := bw_tr ((Below.refl _ _).alloc (Nat.le_refl _) _) hb4
      have hone := (one_own w3 b).bw hb4
      have hsz := b34.size
      go_wp2_with (at_builtin; refine wpList_join rfl (.tmp 27) (.tmp 30) rfl w3.heap.size _ _ _ [b] (dir b y) rfl hone rfl hu ?c1 hsz ?nx)
      case c1 => have := (unhide HXY).2; have h : Y.length = (dir b y).length + 1 := by rw [this]; rfl
                 simp; omega
      case nx =>
        intro yv w5 hyv hb5
        have b35 : Below w3.heap.size w3 w5 := b34.trans hb5
        have e1 : b :: dir b y = Y := (unhide HXY).2.symm
        rw [e1] at hyv
        have hT5 := hT3.bw b35
        have bw5 : Below w.heap.size w w5 := bw_tr bw3 b35
        have hxn := (hxv.nums).bw b35
        have hyn := hyv.nums
        clear hu hone hb4 hb5 b34 b35 hsz e1 hxv hyv hT1 hT3 bw3 c1 K1
        obtain ⟨g, o, cap, rfl, hcap, hcm, hcx⟩ : ∃ g o cap, xv = .slice (some ⟨g, o, none⟩) X.length cap ∧ X.length ≤ cap ∧ cap ≤ maxLen ∧ ∀ j z, X[j]? = some z → w5.cell? ⟨g, o + j, none⟩ = some (.int .i64 z) := by
          rcases hxn with ⟨_, h⟩ | ⟨g, o, cap, h, h1, h2, h3⟩
          · rw [h] at hX0; simp at hX0
          · exact ⟨g, o, cap, h, h1, h2, h3⟩
        obtain ⟨g', o', cap', rfl, hcap', hcm', hcy⟩ : ∃ g o cap, yv = .slice (some ⟨g, o, none⟩) Y.length cap ∧ Y.length ≤ cap ∧ cap ≤ maxLen ∧ ∀ j z, Y[j]? = some z → w5.cell? ⟨g, o + j, none⟩ = some (.int .i64 z) := by
          rcases hyn with ⟨_, h⟩ | ⟨g, o, cap, h, h1, h2, h3⟩
          · rw [h] at hY0; simp at hY0
          · exact ⟨g, o, cap, h, h1, h2, h3⟩
        clear hxn hyn
        unfold maxLen at hcm hcm'
        obtain ⟨M, hM⟩ : ∃ M, M = X.length := ⟨_, rfl⟩
        obtain ⟨N, hN⟩ : ∃ N, N = Y.length := ⟨_, rfl⟩
        rw [← hM] at hXb hX0 hcap ⊢
        rw [← hN] at hYb hY0 hcap' ⊢
        have HC := hide (And.intro hcx hcy)
        have HM := hide (And.intro hM hN)
        clear hcx hcy hM hN
        go_wp2_with fail
        go_loopw [10] (fun iv wr => ∃ i : Nat, iv = .int .i64 i ∧ i ≤ I ∧ wr = w5) (fun iv _ => (M - intOf iv).toNat)
        case atStart => exact ⟨0, rfl, by omega, rfl⟩
        case round =>
          obtain ⟨i, rfl, hi, rfl⟩ := hrel
          have hIM : I < M := by
            rw [(unhide HM).1]
            rcases Nat.lt_or_ge I X.length with h | h
            · exact h
            · have := (unhide HP).1; rw [List.getElem?_eq_none h] at this; cases this
          obtain ⟨z, hz⟩ : ∃ z, X[i]? = some z := ⟨_, List.getElem?_eq_getElem (by have := (unhide HM).1; omega)⟩
          have cz := (unhide HC).1 i z hz
          by_cases hiI : i < I
          · have hzc := (unhide HP).2.1 i z hiI hz
            have n1 : (z == c) = false := by simpa using hzc
            have n2 : (z != c) = true := by simpa using hzc
            clear hz hzc
            go_wp2_with fail
            go_roundw
            case rel => exact ⟨i + 1, by go_num, by omega, trivial⟩
            case measure => simp only [intOf]; omega
          · obtain rfl : i = I := by omega
            obtain rfl : z = c := by rw [(unhide HP).1] at hz; exact (Option.some.inj hz).symm
            clear hz
            go_wp2_with fail
            go_loopw [11] (fun kv wq => ∃ k : Nat, kv = .int .i64 k ∧ k ≤ J ∧ wq = wr) (fun kv _ => (N - intOf kv).toNat)
            case atStart => exact ⟨0, rfl, by omega, rfl⟩
            case round =>
              obtain ⟨k, rfl, hk, rfl⟩ := hrel
              have hJN : J < N := by
                rw [(unhide HM).2]
                rcases Nat.lt_or_ge J Y.length with h | h
                · exact h
                · have := (unhide HP).2.2.1; rw [List.getElem?_eq_none h] at this; cases this
              obtain ⟨z', hz'⟩ : ∃ z, Y[k]? = some z := ⟨_, List.getElem?_eq_getElem (by have := (unhide HM).2; omega)⟩
              have cy := (unhide HC).2 k z' hz'
              by_cases hkJ : k < J
              · have hzc := (unhide HP).2.2.2.1 k z' hkJ hz'
                have n1 : (z' == z) = false := by simpa using hzc
                have n2 : (z' != z) = true := by simpa using hzc
                clear hz' hzc
                go_wp2_with fail
                go_roundw
                case rel => exact ⟨k + 1, by go_num, by omega, trivial⟩
                case measure => simp only [intOf]; omega
              · obtain rfl : k = J := by omega
                obtain rfl : z' = z := by rw [(unhide HP).2.2.1] at hz'; exact (Option.some.inj hz').symm
                clear hz'
                have hn1 : ((i : Int) == (M : Int)) = false := by rw [beq_eq_false_iff_ne]; omega
                have hn2 : ((k : Int) == (N : Int)) = false := by rw [beq_eq_false_iff_ne]; omega
                have KS : ∀ m, Calls Tryd.prog 7 #[.slice (some ⟨g, o + i, none⟩) (M - i) (cap - i), .slice (some ⟨g', o' + k, none⟩) (N - k) (cap' - k)] (wr.drewN m) fun e w' => e = .returned (.bool true) ∧ ∃ q, w' = (wr.drewN m).drewN q := by
                  intro m
                  have h1 : Nums (wr.drewN m) (.slice (some ⟨g, o + i, none⟩) (M - i) (cap - i)) (X.drop i) := nums_drop (unhide HM).1 (unhide HC).1 i (by omega) hcap (by unfold maxLen; omega)
                  have h2 : Nums (wr.drewN m) (.slice (some ⟨g', o' + k, none⟩) (N - k) (cap' - k)) (Y.drop k) := nums_drop (unhide HM).2 (unhide HC).2 k (by omega) hcap' (by unfold maxLen; omega)
                  have h3 := same_quiet _ _ _ _ _ h1 h2
                  rw [decide_eq_true (unhide HP).2.2.2.2.1] at h3
                  exact h3
                have hiM : (i : Int) < (M : Int) := by omega
                have hkN : (k : Int) < (N : Int) := by omega
                have hc1 : (M : Int) ≤ (cap : Int) := by omega
                have hc2 : (N : Int) ≤ (cap' : Int) := by omega
                have hiM' : (i : Int) ≤ (M : Int) := by omega
                have hkN' : (k : Int) ≤ (N : Int) := by omega
                have hsl1 : ∀ w, (Instr.slice 24 (.slice (some ⟨g, o, none⟩) M cap) (some (.int .i64 (i : Int))) none none).run Tryd.prog w = .ok (.slice (some ⟨g, o + i, none⟩) (M - i) (cap - i)) w := fun w => slice_from w g o M cap i (by omega) (by omega)
                have hsl2 : ∀ w, (Instr.slice 24 (.slice (some ⟨g', o', none⟩) N cap') (some (.int .i64 (k : Int))) none none).run Tryd.prog w = .ok (.slice (some ⟨g', o' + k, none⟩) (N - k) (cap' - k)) w := fun w => slice_from w g' o' N cap' k (by omega) (by omega)
                have hT6 := hT5
                have hM0 : (0 : Int) < (M : Int) := by omega
                have hMb : (M : Int) ≤ 32 := by omega
                go_upto_region 11 with fail
                go_cut [100] from 60 to 100 (fun s100 wx => s100 = .bool false ∧ Hid (∀ j z, X[j]? = some z → wx.cell? ⟨g, o + j, none⟩ = some (.int .i64 z)) ∧ Tab wx ∧ Below w.heap.size w wx)
                case first =>
                  rcases Nat.eq_zero_or_pos i with hi0 | hi0
                  · have z1 : decide ((0 : Int) < (i : Int)) = false := decide_eq_false (by omega)
                    have z1n : decide (0 < i) = false := decide_eq_false (by omega)
                    clear hi0
                    go_quiet (first | (go_at_call 7; exact Calls.quiet_of (KS _)))
                    go_wp2_with fail
                    go_meet
                    case rel => exact ⟨rfl, (unhide HC).1, hT6, below_drewN bw5 _⟩
                  · obtain ⟨i', hi'⟩ : ∃ i', i = i' + 1 := ⟨i - 1, by omega⟩
                    have z1 : decide ((0 : Int) < (i : Int)) = true := decide_eq_true (by omega)
                    have z1n : decide (0 < i) = true := decide_eq_true (by omega)
                    have z1' : (0 : Int) < (i : Int) := by omega
                    have wi1 : wrap64 ((i : Int) - 1) = (i' : Int) := by rw [wrap64_id (by omega) (by omega)]; omega
                    have si1 : (i : Int) - 1 = (i' : Int) := by omega
                    have bi1 : (i' : Int) < (M : Int) := by omega
                    obtain ⟨u, hu⟩ : ∃ u, X[i']? = some u := ⟨_, List.getElem?_eq_getElem (by have := (unhide HM).1; omega)⟩
                    have cu := (unhide HC).1 i' u hu
                    rcases Nat.eq_zero_or_pos k with hk0 | hk0
                    · have z2 : decide ((0 : Int) < (k : Int)) = false := decide_eq_false (by omega)
                      have z2n : decide (0 < k) = false := decide_eq_false (by omega)
                      clear hk0 hi0 hi' hu cu si1
                      go_quiet (first | (go_at_call 7; exact Calls.quiet_of (KS _)))
                      go_wp2_with fail
                      go_meet
                      case rel => exact ⟨rfl, (unhide HC).1, hT6, below_drewN bw5 _⟩
                    · obtain ⟨k', hk'⟩ : ∃ k', k = k' + 1 := ⟨k - 1, by omega⟩
                      have z2 : decide ((0 : Int) < (k : Int)) = true := decide_eq_true (by omega)
                      have z2n : decide (0 < k) = true := decide_eq_true (by omega)
                      have z2' : (0 : Int) < (k : Int) := by omega
                      have wk1 : wrap64 ((k : Int) - 1) = (k' : Int) := by rw [wrap64_id (by omega) (by omega)]; omega
                      have sk1 : (k : Int) - 1 = (k' : Int) := by omega
                      have bk1 : (k' : Int) < (N : Int) := by omega
                      obtain ⟨v, hv⟩ : ∃ v, Y[k']? = some v := ⟨_, List.getElem?_eq_getElem (by have := (unhide HM).2; omega)⟩
                      have cv := (unhide HC).2 k' v hv
                      have huv : (u == v) = false := by rw [beq_eq_false_iff_ne]; exact (unhide HP).2.2.2.2.2 i' k' u v hi' hk' hu hv
                      clear hk0 hi0 hi' hu hk' hv
                      go_quiet (first | (go_at_call 7; exact Calls.quiet_of (KS _)))
                      go_wp2_with fail
                      go_meet
                      case rel => exact ⟨rfl, (unhide HC).1, hT6, below_drewN bw5 _⟩
                case rest =>
                  obtain ⟨rfl, hc0, hT0, hb0⟩ := hcut
                  clear KS HC hT5 hT6 HP HXY hn1 hn2 hiM hkN hc1 hc2 hiM' hkN' hsl1 hsl2 cz cy
                  go_wp2_with fail
                  go_loopw [12] (fun nv wq => ∃ n : Nat, nv = .int .i64 n ∧ 1 ≤ n ∧ n ≤ M ∧ Hid (∀ j z, X[j]? = some z → wq.cell? ⟨g, o + j, none⟩ = some (.int .i64 z)) ∧ Tab wq ∧ Below w.heap.size w wq) (fun nv _ => (M - intOf nv).toNat)
                  case atStart => exact ⟨1, rfl, by omega, by omega, hc0, hT0, hb0⟩
                  case round =>
                    obtain ⟨n, rfl, hn1', hn2', hcq, hTq, hbq⟩ := hrel
                    have hT7 : ∀ m, Tab (wr.drewN m) := fun _ => hTq
                    by_cases hnM : n < M
                    · obtain ⟨n', hn'⟩ : ∃ n', n = n' + 1 := ⟨n - 1, by omega⟩
                      obtain ⟨s, hs⟩ : ∃ s, X[n']? = some s := ⟨_, List.getElem?_eq_getElem (by have := (unhide HM).1; omega)⟩
                      obtain ⟨t, ht⟩ : ∃ t, X[n]? = some t := ⟨_, List.getElem?_eq_getElem (by have := (unhide HM).1; omega)⟩
                      have cs := unhide hcq n' s hs
                      have ct := unhide hcq n t ht
                      have hlv := (unhide HQ).2.1 n' s t hs (by rw [← hn']; exact ht)
                      have hsb := (unhide HQ).2.2.1 s (List.mem_of_getElem? hs)
                      have htb := (unhide HQ).2.2.1 t (List.mem_of_getElem? ht)
                      have LS := fun w' (h : Tab w') => level_any s w' hsb h
                      have LT := fun w' (h : Tab w') => level_any t w' htb h
                      rw [hlv.1] at LT
                      have hls : 0 ≤ lvl s ∧ lvl s < 30 := hlv.2
                      have wn1 : wrap64 ((n : Int) - 1) = (n' : Int) := by rw [wrap64_id (by omega) (by omega)]; omega
                      have sn1 : (n : Int) - 1 = (n' : Int) := by omega
                      have kn1 : IntKind.i64.wrap (n' : Int) = (n' : Int) := wrap_i64_nat n' (by omega)
                      have bn0 : (n' : Int) ≤ 32 := by omega
                      have bn1 : (n' : Int) < (M : Int) := by omega
                      have bn2 : (n : Int) < (M : Int) := by omega
                      have HN' := hide hn'
                      clear hn' hs ht hlv hsb htb
                      generalize lvl s = Ls at *
                      have wl1 : wrap64 (Ls + 1) = Ls + 1 := wrap64_id (by omega) (by omega)
                      go_wp2_with fail
                      go_quiet (first | (go_at_call 8; first | exact Calls.quiet_of_same (LT _ (hT7 _)) | exact Calls.quiet_of_same (LS _ (hT7 _))))
                      go_wp2_with fail
                      go_roundw
                      case rel => exact ⟨n + 1, by go_num, by omega, by omega, hcq, hTq, below_drewN hbq _⟩
                      case measure => simp only [intOf]; omega
                    · obtain rfl : n = M := by omega
                      have hlast := (unhide HQ).1
                      rw [← (unhide HM).1] at hlast
                      obtain ⟨n', rfl⟩ : ∃ n', n = n' + 1 := ⟨n - 1, by omega⟩
                      rw [Nat.add_sub_cancel] at hlast
                      have cl := unhide hcq n' (y - 1) hlast
                      have kn1 : IntKind.i64.wrap (n' : Int) = (n' : Int) := wrap_i64_nat n' (by omega)
                      have bn0 : (n' : Int) ≤ 32 := by omega
                      have hcl : (cop a y).length = n' := by have := (unhide HQ).2.2.2; have h2 := (unhide HM).1; omega
                      have hrot := unhide HR
                      have RT := fun w' => root_any y w'
                      rw [hrot] at RT
                      have hwa := (unhide HW).1
                      have hwb := (unhide HW).2
                      have WA := fun w' (h : Tab w') => within_any a z' w' a2 p9 h
                      have WB := fun w' (h : Tab w') => within_any b z' w' b2 p9 h
                      rw [hwa] at WA
                      rw [hwb] at WB
                      have HN' := hide hcl
                      clear hlast hcl hrot hwa hwb hT7 hc0 hT0 hb0 bw5 hcq HQ HW HR HM hIM hJN hn1' hn2' hnM hi hk hiI hkJ
                      go_wp2_with fail
                      have hgw := lt_of_cell' cl
                      have ib0 : (0 : Int) ≤ (n' : Int) := by omega
                      have ib1 : (n' : Int) < ((n' + 1 : Nat) : Int) := by omega
                      have ib2 : (n' : Int) < (n' : Int) + 1 := by omega
                      have ib3 : (n' : Int) + 1 - 1 = (n' : Int) := by omega
                      have ib4 : ((n' + 1 : Nat) : Int) - 1 = (n' : Int) := by omega
                      have ib5 : IntKind.i64.wrap ((n' : Int) + 1 - 1) = (n' : Int) := by rw [ib3]; exact kn1
                      have ib6 : n' < n' + 1 := by omega
                      go_region_held3 (fun w' : World => w'.cell? ⟨g, o + n', none⟩ = some (.int .i64 (y - 1))) (first | exact cl | exact cl6 | exact cl7 | exact cl8 | exact cl9) (first | (go_at_call 9; refine (RT _).mono ?_; rintro e wr1 ⟨rfl, rfl⟩) | (go_at_call 10; refine (copath_any a y _ ?_).mono ?_; exact hTq; rintro e w6 ⟨v6, rfl, hv6, hb6⟩; have t6 := bw_tab hb6 hTq; have cl6 := bw_cell hb6 cl; obtain ⟨p6, c6, rfl⟩ := ints_form hv6; rw [unhide HN']) | (go_at_call_of 11 (Value.int IntKind.i64 a); refine (WA _ ?_).mono ?_; exact t6; rintro e w7 ⟨rfl, hb7⟩; have t7 := bw_tab hb7 t6; have cl7 := bw_cell hb7 cl6) | (go_at_call_of 11 (Value.int IntKind.i64 b); refine (WB _ ?_).mono ?_; exact t7; rintro e w8 ⟨rfl, hb8⟩; have t8 := bw_tab hb8 t7; have cl8 := bw_cell hb8 cl7) | (go_at_call 5; refine (alive_any _ ?_).mono ?_; exact t8; rintro e w9 ⟨rfl, hb9⟩; have cl9 := bw_cell hb9 cl8))
                      all_goals
                        go_wp2_with fail
                        go_ret
                        exact ⟨rfl, bw_tr (bw_tr (bw_tr (bw_tr hbq.drew hb6) hb7) hb8) hb9⟩

set_option maxRecDepth 100000 in
theorem IndexPaths_lifted (os : Os) (started : os.Started) (H : Type) (enc : TypeId × Value → H) :
    ReturnsInHanded {} Tryd.checked os 3 .any (fun w args => (Rows.indexPathsSpec.pre enc Tryd.prog Tryd.f3 [] false w args ∧ laidMetH Tryd.prog laidTab w) ∧ sizedMet enc Tryd.prog Tryd.f3 (OpenSpec.ofChange Rows.indexPathsSpec) false w args)
      (Rows.indexPathsSpec.post enc Tryd.prog Tryd.f3 false true false false) := by
  refine returnsInHanded_of_change_and (C := Tryd.checked) (X := fun w _ => laidMetH Tryd.prog laidTab w) (fun _ _ _ hh h => h.of_heap hh) own started (by kernel_rfl) Tryd.func3
    (ChangeSpec.witness_shaped (enc := enc) (C := Tryd.checked) (os := os) (X := fun w _ => laidMetH Tryd.prog laidTab w) false (World.doorLaid Tryd.prog 14 os) #[.int .i64 0, .int .i64 0, .int .i64 0] 8 rfl (World.shaped_of_RefB (by kernel_rfl) (by kernel_rfl)) (by kernel_rfl) (by kernel_rfl) (by kernel_rfl) (door_met os _)) ?_
  intro W base args ds gs before hval0 hW _ _ hL _
  have hval : ∀ (j : Nat) t v, Tryd.f3.params[j]? = some t → args[j]? = some v → Value.okWide Tryd.prog W .any base t v := hval0
  have hW' := hW
  obtain ⟨p, q, hA0, hV, rfl, hfz, hnd⟩ := hW
  have hA : DataW.TrodAll enc Tryd.prog W 0 (fun _ => true) true Tryd.f3.params.toList args.toList ds p := hA0
  rw [Tryd.params3] at hA hval
  obtain ⟨v0, vs0, d0, ds0, p0, q0, hargs, rfl, rfl, h0, r0⟩ := trodAll_cons hA
  obtain ⟨v1, vs1, d1, ds1, p1, q1, rfl, rfl, rfl, h1, r1⟩ := trodAll_cons r0
  obtain ⟨v2, vs2, d2, ds2, p2, q2, rfl, rfl, rfl, h2, r2⟩ := trodAll_cons r1
  obtain ⟨rfl, rfl, rfl⟩ := trodAll_nil r2
  obtain rfl : args = #[v0, v1, v2] := by cases args; simp_all
  obtain ⟨rfl, rfl⟩ := trodVars_none hV
  obtain ⟨a0, rfl, rfl, rfl, w0⟩ := open_int Tryd.underlying3 (hval 0 3 v0 rfl rfl) h0
  obtain ⟨a1, rfl, rfl, rfl, w1⟩ := open_int Tryd.underlying3 (hval 1 3 v1 rfl rfl) h1
  obtain ⟨a2, rfl, rfl, rfl, w2⟩ := open_int Tryd.underlying3 (hval 2 3 v2 rfl rfl) h2
  clear hA0 hval0
  refine (IndexPaths_walk a0 a1 a2 W (bounds64 w0).1 (bounds64 w0).2 (bounds64 w1).1 (bounds64 w1).2 (bounds64 w2).1 (bounds64 w2).2 (tab_of_laid hL)).mono fun e W' ⟨he, bel⟩ => ?_
  subst he
  exact ⟨_, rfl, _, _, _, [], _, [], hW', trodAll_mk1 (shut_bool Tryd.underlying4 _), (trodAll_cons_mk (shut_int Tryd.underlying3 w0) (trodAll_cons_mk (shut_int Tryd.underlying3 w1) (trodAll_cons_mk (shut_int Tryd.underlying3 w2) trodAll_mk0))), rfl, bel.frame _, fun h => by cases h⟩

theorem IndexPaths_over : Rows.IndexPathsSaid :=
  OpenClaim.holds_of_wide 3 Tryd.f3 rfl rfl rfl rfl rfl rfl rfl ⟨rfl, rfl, rfl, rfl, rfl⟩ rfl rfl rfl rfl rfl (by kernel_rfl) Tryd.func3 (by kernel_rfl)
    (of_decide_eq_true (by kernel_rfl)) (by unfold Func.isWrapper; first | (rw [if_pos (by decide +kernel)]; kernel_rfl) | (rw [if_neg (by decide +kernel)]; exact ⟨rfl, rfl⟩))
    (fun os started H enc _ => IndexPaths_lifted os started H enc)

theorem IndexPaths_holds : Rows.IndexPathsCardSaid :=
  Claim7.holds_tied_plain_at .later [] [.data] true (Rows.indexPathsCard.stood.harness) false
    IndexPaths_over (fun _ h => by cases h) (by kernel_rfl) (fun _ h => by cases h) indexPaths_row_tie rfl ⟨rfl, rfl⟩ (by kernel_rfl) rfl
    (fun f fn hf hfn => by
      obtain rfl : f = 3 := Option.some.inj ((show Tryd.prog.funcNamed "phratry/phratrylaw02.IndexPaths" = some 3 by kernel_rfl).symm.trans hf) |>.symm
      obtain rfl : fn = Tryd.f3 := (Option.some.inj (Tryd.func3.symm.trans hfn)).symm
      exact ⟨by kernel_rfl, fun j t ht => by
        rw [Tryd.params3] at ht
        have hm : t ∈ [3, 3, 3] := by simpa using Array.mem_of_getElem? ht
        have hall : ([3, 3, 3].all fun u => !Tryd.prog.wantsStandIn u) = true := by kernel_rfl
        exact (show Tryd.prog.wantsStandIn t = false by simpa using List.all_eq_true.1 hall t hm)⟩)
    (by kernel_rfl)
#print axioms IndexPaths_holds

end Go.Proofs.YticljbimbbiedaaDoor
