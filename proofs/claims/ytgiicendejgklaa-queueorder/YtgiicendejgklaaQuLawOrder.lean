/- QueueOrder: the walk. -/
import Derived.Test.YtgiicendejgklaaZ30
namespace Go.Proofs.Ytgiicendejgklaa
open Go.RowKit Go.Maps
set_option maxRecDepth 100000 in
set_option maxHeartbeats 1000000 in
theorem order_any {w : World} {v : Value} {l : List Int} (h : Nums w v l) (hl : l.length ≤ 140737488355328) :
    Calls Try.prog 7 #[v] w fun e w' => e = .returned (.bool true) ∧ Below w.heap.size w w' := by
  have KAL : Hid (∀ V2, Calls Try.prog 14 #[] V2 fun e w' => e = .returned (.bool true) ∧ Below V2.heap.size V2 w') := fun V2 => alive17_any V2
  obtain ⟨a, cap, rfl⟩ := nums_slice h
  have HO : Hid (∀ W, Below w.heap.size w W → ∀ i, i < l.length → ∃ g o z, a = some ⟨g, o, none⟩ ∧ W.cell? ⟨g, o + i, none⟩ = some (.int .i64 z)) := fun W hW i hi => by
    obtain ⟨g, o, cap', hv, hc⟩ := h.open (by omega)
    cases hv
    have := hc i _ (List.getElem?_eq_getElem hi)
    exact ⟨g, o, _, rfl, by rw [hW.cell (lt_of_cell this)]; exact this⟩
  obtain ⟨N, hN⟩ : ∃ N, N = l.length := ⟨_, rfl⟩
  rw [← hN] at HO hl ⊢
  obtain ⟨i0, hi0, hz0, hz1, hz2⟩ := info_parts q_infoBool
  have hmk := run_makeSlice (P := Try.prog) w 68 4 i0 (.bool false) Try.underlying68 hi0 hz0 .i64 .i64 65 65 (by omega) (by omega) (by rw [hz1]; omega) (by rw [hz2]; omega) (by omega)
  rw [hz1] at hmk
  have hms : (madeCells (Value.bool false).cells 65).size = 65 := size_madeCells _ _
  have hmg : ∀ j, j < 65 → (madeCells (Value.bool false).cells 65)[j]? = some (.bool false) := fun j hj => by simp [madeCells, Value.cells, hj, Nat.mod_one]
  have e1 : ((65 : Int)).toNat * 1 = 65 := rfl
  have e2 : ((65 : Int)).toNat = 65 := rfl
  rw [e1, e2] at hmk
  generalize madeCells (Value.bool false).cells 65 = mc at hmk hms hmg
  obtain ⟨m, hm⟩ : ∃ m, m = w.heap.size := ⟨_, rfl⟩
  have HM := hide (And.intro hms hmg)
  clear h hN hz0 hz1 hz2 e1 e2 hi0 hms hmg
  go_enter Try.func7, Try.ntmps7
  by_cases hN : 64 < N
  · have q : (64 : Int) < (N : Int) := by omega
    clear hmk hm HO HM
    go_wp2_with fail
    refine (unhide KAL _).mono ?_
    rintro e w9 ⟨rfl, b9⟩
    clear KAL
    go_wp2_with fail
    go_ret
    exact ⟨rfl, b9⟩
  have q : (N : Int) ≤ 64 := by omega
  go_upto_region 5 with fail
  rw [← hm]
  generalize hW : World.alloc w (.cells mc 4) = W1
  have HS0 : Hid (OSt w W1 m (fun _ => false) (.slice none 0 0) 0) := by
    have k1 := heap_alloc_new w (.cells mc 4)
    rw [hW, ← hm] at k1
    refine ⟨by rw [← hW]; exact bwA _ _, ⟨by omega, lt_of_blk k1⟩, ⟨mc, k1, (unhide HM).1, (unhide HM).2⟩, Or.inl ⟨rfl, rfl, fun _ => rfl⟩⟩
  clear hW hmk HM hm
  go_wp2_with fail
  go_loopw [3, 5, 6] (fun lv tv iv wr => ∃ (i e0 : Nat) (met : Nat → Bool), i ≤ N ∧ iv = .int .i64 (i : Int) ∧ tv = .int .i64 (e0 : Int) ∧ Hid (OSt w wr m met lv e0)) (fun _ _ iv _ => (N - intOf iv).toNat)
  case atStart => exact ⟨0, 0, _, Nat.zero_le _, rfl, rfl, HS0⟩
  case round =>
    clear HS0
    obtain ⟨i, e0, met, hi, rfl, rfl, HS⟩ := hrel
    by_cases hlt : i < N
    · obtain ⟨g, o, z, rfl, cz⟩ := unhide HO wr (unhide HS).bel i hlt
      obtain ⟨n, hn, hb⟩ : ∃ n : Nat, n < 64 ∧ bits .and .i64 z 63 = (n : Int) := ⟨(z % 64).toNat, by omega, by rw [i64_and63]; omega⟩
      obtain ⟨L, xs, k1, k2, k3, k4⟩ := (unhide HS).links
      have KF : Hid (Calls Try.prog 15 #[.int .i64 (n : Int)] wr fun e w' => e = .returned (.agg (fdC (fdK 4 (n : Int)) fx00).toArray) ∧ Below wr.heap.size wr w') := feed_any _
      have KT : Hid (∀ W, Below wr.heap.size wr W → Calls Try.prog 12 #[u3, .agg (ptC ⟨0, 1, false, (n : Int), fdK 4 (n : Int)⟩ fx00).toArray] W fun e w' => OTk w W w' m met e0 n e) := fun W hW => by
        refine (take_any (k1.bw hW) (by omega) (fdK_r W 4 (n : Int)) (fdK_s 4 (n : Int))).mono ?_
        intro e w' ht
        exact ((unhide HS).bw hW).take hn k3 k4 ht
      have HBD : Hid (Try.prog.built 45 [(1, .int .i64 1), (3, .int .i64 (n : Int)), (4, .agg (fdC (fdK 4 (n : Int)) fx00).toArray)] = some (ptC ⟨0, 1, false, (n : Int), fdK 4 (n : Int)⟩ fx00).toArray) := built_order _ _ _
      obtain ⟨FC, hFC⟩ : ∃ z, z = (fdC (fdK 4 (n : Int)) fx00).toArray := ⟨_, rfl⟩
      obtain ⟨PC, hPC⟩ : ∃ z, z = (ptC ⟨0, 1, false, (n : Int), fdK 4 (n : Int)⟩ fx00).toArray := ⟨_, rfl⟩
      rw [← hFC] at KF HBD
      rw [← hPC] at KT HBD
      have q1 : (i : Int) < (N : Int) := by omega
      have q2 : (0 : Int) ≤ (n : Int) := by omega
      have q3 : (n : Int) < 65 := by omega
      clear k1 k2 k3 k4 hFC hPC HS HO
      go_wp2_with fail
      refine (unhide KF).mono ?_
      rintro e w1 ⟨rfl, b1⟩
      have KT1 := hide (unhide KT w1 b1)
      clear KF KT b1 cz
      go_wp2_with (refine wpList_buildTo (P := Try.prog) rfl 45 #[(1, .const (.int .i64 1)), (3, .tmp 32), (4, .tmp 34)] rfl (some 35) rfl PC (by simp only [List.map_toArray, List.map_cons, List.map_nil, List.toList_toArray]; exact unhide HBD) ?_)
      refine (unhide KT1).mono ?_
      rintro e w2 ⟨v', tad, tc, bv, e1, D, rfl, hle, h64, hst, hc, hf, hmt, hmf⟩
      subst hle
      obtain ⟨V, hV⟩ : ∃ V, V = w2.setCell ⟨m, n, none⟩ (.bool true) := ⟨_, rfl⟩
      rw [← hV] at hst hmt hmf
      have HV := hide hV
      have HST := hide (unhide hst)
      have HMT := hide (And.intro hmt hmf)
      have hD : (e0 : Int) + (D : Int) ≤ 64 := by omega
      clear KT1 hst hV hmt hmf HBD
      go_upto_region 14 with fail
      rw [← unhide HV]
      clear HV hc hf
      go_wp2_with fail
      go_loopw [12] (fun kv wq => ∃ k : Nat, k ≤ D ∧ kv = .int .i64 (k : Int) ∧ Hid (wq = V)) (fun kv _ => (D - intOf kv).toNat)
      case atStart => exact ⟨0, Nat.zero_le _, rfl, rfl⟩
      case round =>
        obtain ⟨k, hk, rfl, HE⟩ := hrel
        have hE := unhide HE
        subst hE
        clear HE
        by_cases hkD : k < D
        · obtain ⟨g9, o9, rfl, c9⟩ := (unhide HST).2.2 k hkD
          have r1 : (k : Int) < (D : Int) := by omega
          go_wp2_with fail
          go_roundw
          case rel => exact ⟨k + 1, by omega, by go_num, hide trivial⟩
          case measure => simp only [intOf]; omega
        · obtain rfl : k = D := by omega
          go_wp2_with fail
          go_loopw [13] (fun jv wq => ∃ j : Nat, j ≤ e0 + k ∧ jv = .int .i64 (j : Int) ∧ Hid (wq = wr)) (fun jv _ => (e0 + k - intOf jv).toNat)
          case atStart => exact ⟨0, Nat.zero_le _, rfl, rfl⟩
          case round =>
            obtain ⟨j, hj, rfl, HE⟩ := hrel
            have hE := unhide HE
            subst hE
            clear HE
            have r2 : (j : Int) < 65 := by omega
            by_cases hjk : j < e0 + k
            · have c9 := (unhide HMT).1 j hjk
              go_wp2_with fail
              go_roundw
              case rel => exact ⟨j + 1, by omega, by go_num, hide trivial⟩
              case measure => simp only [intOf]; omega
            · obtain rfl : j = e0 + k := by omega
              have c9 := (unhide HMT).2
              have r3 : ((e0 + k : Nat) : Int) = (e0 : Int) + (k : Int) := by omega
              go_wp2_with fail
              go_roundw
              case rel => exact ⟨i + 1, e0 + k, _, by omega, by go_num, by go_num, (unhide HST).2.1⟩
              case measure => simp only [intOf]; omega
    · obtain rfl : i = N := by omega
      have HB := hide (unhide HS).bel
      clear HS HO
      go_wp2_with fail
      refine (unhide KAL _).mono ?_
      rintro e w9 ⟨rfl, b9⟩
      clear KAL
      go_wp2_with fail
      go_ret
      exact ⟨rfl, bw_tr (unhide HB) b9⟩
end Go.Proofs.Ytgiicendejgklaa
