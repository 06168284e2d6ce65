/- The document's SetCard (package phratryref16). mkRoCq.py writes it. -/
import Derived.Test.YtihniafidgjlcaaGreatDoorRoCr
namespace Go.Proofs.YtihniafidgjlcaaGreatDoor.Cd
open Go.RowKit Go.Maps
set_option maxRecDepth 100000 in
set_option maxHeartbeats 16000000 in
theorem rset_any {w : World} {v : Value} {l : List Cd} {xs : List Unit} (h : RdL kCd w v l xs) (hl : l.length ≤ 262144) (cu ce cp : Int) :
    Calls Tryz.prog 24 #[v, .agg #[.int .i64 cu, .int .i64 ce, .int .i64 cp]] w fun e w' => ∃ v' er, e = .returned (.tuple #[v', .int .i64 er]) ∧ RSetX w.heap.size w' v' er l ⟨cu, ce, cp⟩ ∧ Below w.heap.size w w' := by
  obtain ⟨j0, hj, hy0, hy1, hyb⟩ := info_parts infoKCard
  obtain ⟨w0, hw0⟩ : ∃ w0, w0 = w.alloc (.cells #[.int .i64 cu, .int .i64 ce, .int .i64 cp] 44) := ⟨_, rfl⟩
  have bl : Below w.heap.size w w0 := by rw [hw0]; exact bwA _ _
  have kk : w0.heap[w.heap.size]? = some (.cells #[.int .i64 cu, .int .i64 ce, .int .i64 cp] 44 (0, 0)) := by rw [hw0]; exact heap_alloc_new _ _
  obtain ⟨r, hr⟩ : ∃ r, r = mayX l := ⟨_, rfl⟩
  obtain ⟨r2, hr2⟩ : ∃ r, r = decide (0 ≤ cu ∧ cu < 64 ∧ 0 ≤ ce ∧ 0 < cp) := ⟨_, rfl⟩
  have KM : Hid (∀ W, Below w0.heap.size w0 W → Calls Tryz.prog 49 #[v] W fun e w' => e = .returned (.bool r) ∧ Below W.heap.size W w') := fun W hW => by rw [hr]; exact rmay_any ((h.bw bl).bw hW) (by omega)
  have KF : Hid (∀ W, Calls Tryz.prog 50 #[.agg #[.int .i64 cu, .int .i64 ce, .int .i64 cp]] W fun e w' => e = .returned (.bool r2) ∧ Below W.heap.size W w') := fun W => by rw [hr2]; exact rfits_any cu ce cp
  have HK : Hid (∀ W, Below w0.heap.size w0 W → (W.cell? ⟨w.heap.size, 0, none⟩ = some (.int .i64 cu) ∧ W.cell? ⟨w.heap.size, 1, none⟩ = some (.int .i64 ce) ∧ W.cell? ⟨w.heap.size, 2, none⟩ = some (.int .i64 cp))) := fun W hW => by
    have k1 := kept_b kk (lt_of_blk kk) hW
    exact ⟨blk_c k1 rfl, blk_c k1 rfl, blk_c k1 rfl⟩
  obtain ⟨a, cap, rfl⟩ := rdl_slice h
  obtain ⟨N, hN⟩ : ∃ N, N = l.length := ⟨_, rfl⟩
  rw [← hN] at KM ⊢
  have hNI : (N : Int) ≤ 262144 := by omega
  have HP0 : Hid (∀ i, i < N → ∃ us ep pb gb o, l[i]? = some ⟨us, ep, pb⟩ ∧ a = some ⟨gb, o, none⟩ ∧ ∀ W, Below w0.heap.size w0 W → W.cell? ⟨gb, o + i * 3, none⟩ = some (.int .i64 us) ∧ W.cell? ⟨gb, o + i * 3 + 1, none⟩ = some (.int .i64 ep) ∧ W.cell? ⟨gb, o + i * 3 + 2, none⟩ = some (.int .i64 pb)) := fun i hi => by
    obtain ⟨p, hp⟩ : ∃ p, l[i]? = some p := ⟨_, List.getElem?_eq_getElem (by omega)⟩
    rw [← hN] at h
    obtain ⟨gb, o, x, e, hx, hR, hc⟩ := h.get hp
    refine ⟨p.us, p.ep, p.pb, gb, o, hp, e, fun W hW => ?_⟩
    have q := bw_tr bl hW
    have d0 : w.cell? ⟨gb, o + i * 3, none⟩ = some (.int .i64 p.us) := hc 0 _ rfl
    have d1 : w.cell? ⟨gb, o + i * 3 + 1, none⟩ = some (.int .i64 p.ep) := hc 1 _ rfl
    have d2 : w.cell? ⟨gb, o + i * 3 + 2, none⟩ = some (.int .i64 p.pb) := hc 2 _ rfl
    exact ⟨by rw [q.cell (lt_of_cell d0)]; exact d0, by rw [q.cell (lt_of_cell d1)]; exact d1, by rw [q.cell (lt_of_cell d2)]; exact d2⟩
  have HR := hide (And.intro hr (And.intro hr2 (And.intro hN hl)))
  have HW := hide hw0
  have HBL := hide bl
  have y0 := (unhide HK w0 (Below.refl _ _)).1
  have y1 := (unhide HK w0 (Below.refl _ _)).2.1
  have y2 := (unhide HK w0 (Below.refl _ _)).2.2
  clear h hl hw0 bl kk hr hr2 hN
  cases r with
  | false =>
    have HF : Hid (¬ (okC ⟨cu, ce, cp⟩ ∧ mayP l)) := fun q => by
      have := mayX_iff.2 q.2
      rw [← (unhide HR).1] at this; cases this
    have K := hide (unhide KM w0 (Below.refl _ _))
    go_enter Tryz.func24, Tryz.ntmps24
    go_upto_region 1 with fail
    rw [← unhide HW]
    clear HW
    go_wp2_with fail
    refine (unhide K).mono ?_
    rintro e w1 ⟨rfl, b1⟩
    have HB2 := hide (bw_tr (unhide HBL) b1)
    clear K KM KF HK HP0 b1 y0 y1 y2
    go_wp2_with fail
    go_ret2
    exact ⟨_, 1, rfl, Or.inl ⟨rfl, unhide HF, rfl⟩, unhide HB2⟩
  | true =>
    have K := hide (unhide KM w0 (Below.refl _ _))
    go_enter Tryz.func24, Tryz.ntmps24
    go_upto_region 1 with fail
    rw [← unhide HW]
    clear HW
    go_wp2_with fail
    refine (unhide K).mono ?_
    rintro e w1 ⟨rfl, b1⟩
    have HB1 := hide b1
    obtain ⟨k0, k1, k2⟩ := unhide HK w1 b1
    have K2 := hide (unhide KF w1)
    clear K KM KF b1 y0 y1 y2
    cases r2 with
    | false =>
      have HF : Hid (¬ (okC ⟨cu, ce, cp⟩ ∧ mayP l)) := fun q => by
        have hq : 0 ≤ cu ∧ cu < 64 ∧ 0 ≤ ce ∧ 0 < cp := q.1
        have := decide_eq_true hq
        rw [← (unhide HR).2.1] at this; cases this
      go_wp2_with fail
      refine (unhide K2).mono ?_
      rintro e w2 ⟨rfl, b2⟩
      have HB2 := hide (bw_tr (unhide HBL) (bw_tr (unhide HB1) b2))
      clear K2 HP0 HK b2 k0 k1 k2
      go_wp2_with fail
      go_ret2
      exact ⟨_, 1, rfl, Or.inl ⟨rfl, unhide HF, rfl⟩, unhide HB2⟩
    | true =>
      have HOK : Hid (okC ⟨cu, ce, cp⟩ ∧ mayP l) := ⟨show 0 ≤ cu ∧ cu < 64 ∧ 0 ≤ ce ∧ 0 < cp from of_decide_eq_true (unhide HR).2.1.symm, mayX_iff.1 (unhide HR).1.symm⟩
      go_wp2_with fail
      refine (unhide K2).mono ?_
      rintro e w2 ⟨rfl, b2⟩
      have HB2 := hide (bw_tr (unhide HB1) b2)
      clear K2 b2 k0 k1 k2 HB1
      go_wp2_with fail
      go_loopw [6, 7, 8] (fun ov dv iv wr => ∃ (i : Nat) (L : List Cd) (xs' : List Unit) (d : Bool) (a' : Option Addr) (c' : Nat), iv = .int .i64 (i : Int) ∧ i ≤ N ∧ dv = .bool d ∧ ov = .slice a' L.length c' ∧ Hid ((L, d) = dgo ⟨cu, ce, cp⟩ (l.take i)) ∧ Hid (OwL kCd w0.heap.size wr (.slice a' L.length c') L xs' ∧ Below w0.heap.size w0 wr)) (fun _ _ iv _ => (N - intOf iv).toNat)
      case atStart => exact ⟨0, [], [], false, none, 0, rfl, Nat.zero_le _, rfl, rfl, rfl, ⟨OwL.nil _ _ _, unhide HB2⟩⟩
      case round =>
        clear HB2
        obtain ⟨i, L, xs', d, a', c', rfl, hi, rfl, rfl, HG, HO⟩ := hrel
        have HN : Hid (L.length ≤ 524288) := by
          have := dgo_len ⟨cu, ce, cp⟩ (l.take i)
          rw [← unhide HG, List.length_take] at this
          have this : L.length ≤ 2 * min i l.length := this
          have := (unhide HR).2.2
          unfold Hid
          omega
        by_cases hlt : i < N
        · have hiI : (i : Int) < (N : Int) := by omega
          have h0 : (0 : Int) ≤ (i : Int) := by omega
          obtain ⟨us, ep, pb, gb, o, hp, rfl, hc⟩ := unhide HP0 i hlt
          have HP := hide hc
          have HSt : Hid (∀ L' d', dstep ⟨cu, ce, cp⟩ (L, d) ⟨us, ep, pb⟩ = (L', d') → (L', d') = dgo ⟨cu, ce, cp⟩ (l.take (i + 1))) := fun L' d' e => by
            have e1 : l.take (i + 1) = l.take i ++ [⟨us, ep, pb⟩] := by rw [List.take_add_one, hp]; rfl
            rw [e1, dgo_snoc, ← unhide HG, e]
          clear HG hp hc HP0
          obtain ⟨f0, f1, f2⟩ := unhide HP wr (unhide HO).2
          obtain ⟨k0, k1, k2⟩ := unhide HK wr (unhide HO).2
          cases d with
          | false =>
            by_cases hge : cu ≤ us
            · by_cases hne : us = cu
              · have hge : cu ≤ us := hge
                have g1 : decide (cu ≤ us) = true := decide_eq_true hge
                have n1 : (us != cu) = false := by simp [hne]
                have n2 : decide (us = cu) = true := decide_eq_true hne
                have n3 : (us == cu) = true := by simp [hne]
                have S0 : wr.cell? ⟨gb, o + i * 3, none⟩ = some (.int .i64 us) ∧ wr.cell? ⟨w.heap.size, 0, none⟩ = some (.int .i64 cu) := ⟨f0, k0⟩
                go_upto_region 8 with fail
                refine wp_region_held_drew (S := fun w' : World => w'.cell? ⟨gb, o + i * 3, none⟩ = some (.int .i64 us) ∧ w'.cell? ⟨w.heap.size, 0, none⟩ = some (.int .i64 cu)) (by kernel_rfl) S0 (fun hHeld => ?_)
                refine wpAnyH_take (i := 0) (oi := { dst := some 23, op := Op.move (Operand.tmp 7), type := 4, pos := "ref.go:120", after := #[], guard := none }) (v := ?v0r7) rfl (by kernel_rfl) (by kernel_rfl) (by kernel_rfl) (fun _ _ _ h => h) (Or.inl ⟨by rfl, ?hy0r7⟩) (by exact hHeld) ?_
                case hy0r7 => (intro w hSw; (try dsimp only at hSw); go_simp; try (with_reducible rfl))
                try simp only [Act.put, List.setIfInBounds_toArray, List.set_cons_zero, List.set_cons_succ]
                refine wpAnyH_take (i := 1) (oi := { dst := some 24, op := Op.unOp UnOp.not 4 (Operand.tmp 23), type := 4, pos := "ref.go:120", after := #[{ on := 0, ground := Ground.data }], guard := none }) (v := ?v1r7) rfl (by kernel_rfl) (by kernel_rfl) (by kernel_rfl) (fun _ _ _ h => h) (Or.inl ⟨by rfl, ?hy1r7⟩) (by exact hHeld) ?_
                case hy1r7 => (intro w hSw; (try dsimp only at hSw); go_simp; try (with_reducible rfl))
                try simp only [Act.put, List.setIfInBounds_toArray, List.set_cons_zero, List.set_cons_succ]
                refine wpAnyH_take (i := 2) (oi := { dst := some 25, op := Op.move (Operand.tmp 24), type := 4, pos := "ref.go:120", after := #[{ on := 1, ground := Ground.data }], guard := none }) (v := ?v2r7) rfl (by kernel_rfl) (by kernel_rfl) (by kernel_rfl) (fun _ _ _ h => h) (Or.inl ⟨by rfl, ?hy2r7⟩) (by exact hHeld) ?_
                case hy2r7 => (intro w hSw; (try dsimp only at hSw); go_simp; try (with_reducible rfl))
                try simp only [Act.put, List.setIfInBounds_toArray, List.set_cons_zero, List.set_cons_succ]
                refine wpAnyH_take (i := 3) (oi := { dst := some 26, op := Op.move (Operand.tmp 0), type := 56, pos := "ref.go:120", after := #[{ on := 2, ground := Ground.guard }], guard := some (2, true) }) (v := ?v3r7) rfl (by kernel_rfl) (by kernel_rfl) (by kernel_rfl) (fun _ _ _ h => h) (Or.inl ⟨by rfl, ?hy3r7⟩) (by exact hHeld) ?_
                case hy3r7 => (intro w hSw; (try dsimp only at hSw); go_simp; try (with_reducible rfl))
                try simp only [Act.put, List.setIfInBounds_toArray, List.set_cons_zero, List.set_cons_succ]
                refine wpAnyH_take (i := 4) (oi := { dst := some 27, op := Op.move (Operand.tmp 8), type := 3, pos := "ref.go:120", after := #[{ on := 2, ground := Ground.guard }], guard := some (2, true) }) (v := ?v4r7) rfl (by kernel_rfl) (by kernel_rfl) (by kernel_rfl) (fun _ _ _ h => h) (Or.inl ⟨by rfl, ?hy4r7⟩) (by exact hHeld) ?_
                case hy4r7 => (intro w hSw; (try dsimp only at hSw); go_simp; try (with_reducible rfl))
                try simp only [Act.put, List.setIfInBounds_toArray, List.set_cons_zero, List.set_cons_succ]
                refine wpAnyH_take (i := 5) (oi := { dst := some 28, op := Op.indexAddr 56 (Operand.tmp 26) (Operand.tmp 27), type := 0, pos := "ref.go:120", after := #[{ on := 3, ground := Ground.data }, { on := 4, ground := Ground.data }, { on := 2, ground := Ground.guard }], guard := some (2, true) }) (v := ?v5r7) rfl (by kernel_rfl) (by kernel_rfl) (by kernel_rfl) (fun _ _ _ h => h) (Or.inl ⟨by rfl, ?hy5r7⟩) (by exact hHeld) ?_
                case hy5r7 => (intro w hSw; (try dsimp only at hSw); go_simp; try (with_reducible rfl))
                try simp only [Act.put, List.setIfInBounds_toArray, List.set_cons_zero, List.set_cons_succ]
                refine wpAnyH_take (i := 6) (oi := { dst := some 29, op := Op.fieldAddr 44 (Operand.tmp 28) 0, type := 0, pos := "ref.go:120", after := #[{ on := 5, ground := Ground.data }, { on := 2, ground := Ground.guard }], guard := some (2, true) }) (v := ?v6r7) rfl (by kernel_rfl) (by kernel_rfl) (by kernel_rfl) (fun _ _ _ h => h) (Or.inl ⟨by rfl, ?hy6r7⟩) (by exact hHeld) ?_
                case hy6r7 => (intro w hSw; (try dsimp only at hSw); go_simp; try (with_reducible rfl))
                try simp only [Act.put, List.setIfInBounds_toArray, List.set_cons_zero, List.set_cons_succ]
                refine wpAnyH_take (i := 7) (oi := { dst := some 30, op := Op.load 3 (Operand.tmp 29), type := 3, pos := "ref.go:120", after := #[{ on := 6, ground := Ground.data }, { on := 2, ground := Ground.guard }], guard := some (2, true) }) (v := ?v7r7) rfl (by kernel_rfl) (by kernel_rfl) (by kernel_rfl) (fun _ _ _ h => h) (Or.inl ⟨by rfl, ?hy7r7⟩) (by exact hHeld) ?_
                case hy7r7 => (intro w hSw; (try dsimp only at hSw); go_simp; try (with_reducible rfl))
                try simp only [Act.put, List.setIfInBounds_toArray, List.set_cons_zero, List.set_cons_succ]
                refine wpAnyH_take (i := 8) (oi := { dst := some 31, op := Op.fieldAddr 44 (Operand.tmp 3) 0, type := 0, pos := "ref.go:120", after := #[{ on := 2, ground := Ground.guard }], guard := some (2, true) }) (v := ?v8r7) rfl (by kernel_rfl) (by kernel_rfl) (by kernel_rfl) (fun _ _ _ h => h) (Or.inl ⟨by rfl, ?hy8r7⟩) (by exact hHeld) ?_
                case hy8r7 => (intro w hSw; (try dsimp only at hSw); go_simp; try (with_reducible rfl))
                try simp only [Act.put, List.setIfInBounds_toArray, List.set_cons_zero, List.set_cons_succ]
                refine wpAnyH_take (i := 9) (oi := { dst := some 32, op := Op.load 3 (Operand.tmp 31), type := 3, pos := "ref.go:120", after := #[{ on := 8, ground := Ground.data }, { on := 2, ground := Ground.guard }], guard := some (2, true) }) (v := ?v9r7) rfl (by kernel_rfl) (by kernel_rfl) (by kernel_rfl) (fun _ _ _ h => h) (Or.inl ⟨by rfl, ?hy9r7⟩) (by exact hHeld) ?_
                case hy9r7 => (intro w hSw; (try dsimp only at hSw); go_simp; try (with_reducible rfl))
                try simp only [Act.put, List.setIfInBounds_toArray, List.set_cons_zero, List.set_cons_succ]
                refine wpAnyH_take (i := 10) (oi := { dst := some 33, op := Op.binOp BinOp.geq 3 (Operand.tmp 30) (Operand.tmp 32) 3, type := 4, pos := "ref.go:120", after := #[{ on := 7, ground := Ground.data }, { on := 9, ground := Ground.data }, { on := 2, ground := Ground.guard }], guard := some (2, true) }) (v := ?v10r7) rfl (by kernel_rfl) (by kernel_rfl) (by kernel_rfl) (fun _ _ _ h => h) (Or.inl ⟨by rfl, ?hy10r7⟩) (by exact hHeld) ?_
                case hy10r7 => (intro w hSw; (try dsimp only at hSw); go_simp; try (with_reducible rfl))
                try simp only [Act.put, List.setIfInBounds_toArray, List.set_cons_zero, List.set_cons_succ]
                refine wpAnyH_take (i := 11) (oi := { dst := some 34, op := Op.pick (Operand.tmp 25) (Operand.tmp 33) (Operand.const (Value.bool false)), type := 4, pos := "ref.go:120", after := #[{ on := 2, ground := Ground.data }, { on := 10, ground := Ground.data }], guard := none }) (v := ?v11r7) rfl (by kernel_rfl) (by kernel_rfl) (by kernel_rfl) (fun _ _ _ h => h) (Or.inl ⟨by rfl, ?hy11r7⟩) (by exact hHeld) ?_
                case hy11r7 => (intro w hSw; (try dsimp only at hSw); go_simp; try (with_reducible rfl))
                try simp only [Act.put, List.setIfInBounds_toArray, List.set_cons_zero, List.set_cons_succ]
                refine wpAnyH_done (by kernel_rfl) ?_ _
                clear S0 f0 f1 f2 k0 k1 k2
                have HOd := hide (And.intro ((unhide HO).1.bw (Below.refl _ _).drew) ((unhide HO).2.drew))
                generalize World.drew wr = wd at HOd ⊢
                have k0 : World.cell? wd ⟨w.heap.size, 0, none⟩ = some (.int .i64 cu) := (unhide HK wd (unhide HOd).2).1
                have k1 : World.cell? wd ⟨w.heap.size, 1, none⟩ = some (.int .i64 ce) := (unhide HK wd (unhide HOd).2).2.1
                have k2 : World.cell? wd ⟨w.heap.size, 2, none⟩ = some (.int .i64 cp) := (unhide HK wd (unhide HOd).2).2.2
                go_wp2_with (at_builtin; refine wpList_append_own _ rfl (.tmp 35) (.tmp 37) 56 rfl w0.heap.size 44 j0 (.agg #[.int .i64 0, .int .i64 0, .int .i64 0]) 3 24 Tryz.underlying56 hj hy0 hy1 hyb rfl (by decide) _ _ _ rfl (World.ownsRow.alloc (unhide HOd).1.row _) ⟨wd.heap.size, 0, none⟩ 1 1 [.int .i64 cu, .int .i64 ce, .int .i64 cp] rfl rfl (cells_newM wd [.int .i64 cu, .int .i64 ce, .int .i64 cp] 44) (card_one _ _ _) ?c3c ?c4c ?c5c ?nxc)
                case c3c => have := unhide HN; unfold maxLen; omega
                case c4c => have := unhide HN; omega
                case c5c => have := (unhide HOd).2.size; simp; omega
                case nxc =>
                  intro v5 w5 hown hgrow _
                  obtain ⟨L5, hL2⟩ : ∃ z, z = L ++ [(⟨cu, ce, cp⟩ : Cd)] := ⟨_, rfl⟩
                  have Q := own_snocC (c := ⟨cu, ce, cp⟩) (unhide HOd).1 (unhide HOd).2 (by simpa [cdC] using hown) hgrow
                  rw [← hL2] at Q
                  have HO5 := hide Q
                  have HL5 := hide hL2
                  have HN5 : Hid (L5.length ≤ 524289) := by have := unhide HN; have e_ : L5.length = L.length + 1 := (by rw [hL2]; simp); unfold Hid; omega
                  obtain ⟨ac, cc, e_⟩ := own_slice Q.1.row
                  clear Q hown hgrow hL2
                  subst e_
                  clear k0 k1 k2
                  obtain ⟨f0, f1, f2⟩ := unhide HP w5 (unhide HO5).2
                  have k0 : World.cell? w5 ⟨w.heap.size, 0, none⟩ = some (.int .i64 cu) := (unhide HK w5 (unhide HO5).2).1
                  have k1 : World.cell? w5 ⟨w.heap.size, 1, none⟩ = some (.int .i64 ce) := (unhide HK w5 (unhide HO5).2).2.1
                  have k2 : World.cell? w5 ⟨w.heap.size, 2, none⟩ = some (.int .i64 cp) := (unhide HK w5 (unhide HO5).2).2.2
                  have S0 : w5.cell? ⟨gb, o + i * 3, none⟩ = some (.int .i64 us) ∧ w5.cell? ⟨w.heap.size, 0, none⟩ = some (.int .i64 cu) := ⟨f0, k0⟩
                  go_upto_region 11 with fail
                  refine wp_region_held_drew (S := fun w' : World => w'.cell? ⟨gb, o + i * 3, none⟩ = some (.int .i64 us) ∧ w'.cell? ⟨w.heap.size, 0, none⟩ = some (.int .i64 cu)) (by kernel_rfl) S0 (fun hHeld => ?_)
                  refine wpAnyH_take (i := 0) (oi := { dst := some 39, op := Op.move (Operand.tmp 0), type := 56, pos := "ref.go:124", after := #[], guard := none }) (v := ?v0r8) rfl (by kernel_rfl) (by kernel_rfl) (by kernel_rfl) (fun _ _ _ h => h) (Or.inl ⟨by rfl, ?hy0r8⟩) (by exact hHeld) ?_
                  case hy0r8 => (intro w hSw; (try dsimp only at hSw); go_simp; try (with_reducible rfl))
                  try simp only [Act.put, List.setIfInBounds_toArray, List.set_cons_zero, List.set_cons_succ]
                  refine wpAnyH_take (i := 1) (oi := { dst := some 40, op := Op.move (Operand.tmp 8), type := 3, pos := "ref.go:124", after := #[], guard := none }) (v := ?v1r8) rfl (by kernel_rfl) (by kernel_rfl) (by kernel_rfl) (fun _ _ _ h => h) (Or.inl ⟨by rfl, ?hy1r8⟩) (by exact hHeld) ?_
                  case hy1r8 => (intro w hSw; (try dsimp only at hSw); go_simp; try (with_reducible rfl))
                  try simp only [Act.put, List.setIfInBounds_toArray, List.set_cons_zero, List.set_cons_succ]
                  refine wpAnyH_take (i := 2) (oi := { dst := some 41, op := Op.indexAddr 56 (Operand.tmp 39) (Operand.tmp 40), type := 0, pos := "ref.go:124", after := #[{ on := 0, ground := Ground.data }, { on := 1, ground := Ground.data }], guard := none }) (v := ?v2r8) rfl (by kernel_rfl) (by kernel_rfl) (by kernel_rfl) (fun _ _ _ h => h) (Or.inl ⟨by rfl, ?hy2r8⟩) (by exact hHeld) ?_
                  case hy2r8 => (intro w hSw; (try dsimp only at hSw); go_simp; try (with_reducible rfl))
                  try simp only [Act.put, List.setIfInBounds_toArray, List.set_cons_zero, List.set_cons_succ]
                  refine wpAnyH_take (i := 3) (oi := { dst := some 42, op := Op.fieldAddr 44 (Operand.tmp 41) 0, type := 0, pos := "ref.go:124", after := #[{ on := 2, ground := Ground.data }], guard := none }) (v := ?v3r8) rfl (by kernel_rfl) (by kernel_rfl) (by kernel_rfl) (fun _ _ _ h => h) (Or.inl ⟨by rfl, ?hy3r8⟩) (by exact hHeld) ?_
                  case hy3r8 => (intro w hSw; (try dsimp only at hSw); go_simp; try (with_reducible rfl))
                  try simp only [Act.put, List.setIfInBounds_toArray, List.set_cons_zero, List.set_cons_succ]
                  refine wpAnyH_take (i := 4) (oi := { dst := some 43, op := Op.load 3 (Operand.tmp 42), type := 3, pos := "ref.go:124", after := #[{ on := 3, ground := Ground.data }], guard := none }) (v := ?v4r8) rfl (by kernel_rfl) (by kernel_rfl) (by kernel_rfl) (fun _ _ _ h => h) (Or.inl ⟨by rfl, ?hy4r8⟩) (by exact hHeld) ?_
                  case hy4r8 => (intro w hSw; (try dsimp only at hSw); go_simp; try (with_reducible rfl))
                  try simp only [Act.put, List.setIfInBounds_toArray, List.set_cons_zero, List.set_cons_succ]
                  refine wpAnyH_take (i := 5) (oi := { dst := some 44, op := Op.fieldAddr 44 (Operand.tmp 3) 0, type := 0, pos := "ref.go:124", after := #[], guard := none }) (v := ?v5r8) rfl (by kernel_rfl) (by kernel_rfl) (by kernel_rfl) (fun _ _ _ h => h) (Or.inl ⟨by rfl, ?hy5r8⟩) (by exact hHeld) ?_
                  case hy5r8 => (intro w hSw; (try dsimp only at hSw); go_simp; try (with_reducible rfl))
                  try simp only [Act.put, List.setIfInBounds_toArray, List.set_cons_zero, List.set_cons_succ]
                  refine wpAnyH_take (i := 6) (oi := { dst := some 45, op := Op.load 3 (Operand.tmp 44), type := 3, pos := "ref.go:124", after := #[{ on := 5, ground := Ground.data }], guard := none }) (v := ?v6r8) rfl (by kernel_rfl) (by kernel_rfl) (by kernel_rfl) (fun _ _ _ h => h) (Or.inl ⟨by rfl, ?hy6r8⟩) (by exact hHeld) ?_
                  case hy6r8 => (intro w hSw; (try dsimp only at hSw); go_simp; try (with_reducible rfl))
                  try simp only [Act.put, List.setIfInBounds_toArray, List.set_cons_zero, List.set_cons_succ]
                  refine wpAnyH_take (i := 7) (oi := { dst := some 46, op := Op.binOp BinOp.neq 3 (Operand.tmp 43) (Operand.tmp 45) 3, type := 4, pos := "ref.go:124", after := #[{ on := 4, ground := Ground.data }, { on := 6, ground := Ground.data }], guard := none }) (v := ?v7r8) rfl (by kernel_rfl) (by kernel_rfl) (by kernel_rfl) (fun _ _ _ h => h) (Or.inl ⟨by rfl, ?hy7r8⟩) (by exact hHeld) ?_
                  case hy7r8 => (intro w hSw; (try dsimp only at hSw); go_simp; try (with_reducible rfl))
                  try simp only [Act.put, List.setIfInBounds_toArray, List.set_cons_zero, List.set_cons_succ]
                  refine wpAnyH_done (by kernel_rfl) ?_ _
                  clear S0 f0 f1 f2 k0 k1 k2
                  have HOz := hide (And.intro ((unhide HO5).1.bw (Below.refl _ _).drew) ((unhide HO5).2.drew))
                  generalize World.drew w5 = wz at HOz ⊢
                  have HX := hide (unhide HSt L5 true (by rw [unhide HL5]; exact dstep_b hge hne))
                  go_wp2_with fail
                  go_roundw
                  case rel => exact ⟨i + 1, L5, _, true, _, _, by go_num, by omega, rfl, rfl, HX, HOz⟩
                  case measure => simp only [intOf]; omega
              · have hge : cu ≤ us := hge
                have g1 : decide (cu ≤ us) = true := decide_eq_true hge
                have n1 : (us != cu) = true := by simp [hne]
                have n2 : decide (us = cu) = false := decide_eq_false hne
                have n3 : (us == cu) = false := by simp [hne]
                have S0 : wr.cell? ⟨gb, o + i * 3, none⟩ = some (.int .i64 us) ∧ wr.cell? ⟨w.heap.size, 0, none⟩ = some (.int .i64 cu) := ⟨f0, k0⟩
                go_upto_region 8 with fail
                refine wp_region_held_drew (S := fun w' : World => w'.cell? ⟨gb, o + i * 3, none⟩ = some (.int .i64 us) ∧ w'.cell? ⟨w.heap.size, 0, none⟩ = some (.int .i64 cu)) (by kernel_rfl) S0 (fun hHeld => ?_)
                refine wpAnyH_take (i := 0) (oi := { dst := some 23, op := Op.move (Operand.tmp 7), type := 4, pos := "ref.go:120", after := #[], guard := none }) (v := ?v0r9) rfl (by kernel_rfl) (by kernel_rfl) (by kernel_rfl) (fun _ _ _ h => h) (Or.inl ⟨by rfl, ?hy0r9⟩) (by exact hHeld) ?_
                case hy0r9 => (intro w hSw; (try dsimp only at hSw); go_simp; try (with_reducible rfl))
                try simp only [Act.put, List.setIfInBounds_toArray, List.set_cons_zero, List.set_cons_succ]
                refine wpAnyH_take (i := 1) (oi := { dst := some 24, op := Op.unOp UnOp.not 4 (Operand.tmp 23), type := 4, pos := "ref.go:120", after := #[{ on := 0, ground := Ground.data }], guard := none }) (v := ?v1r9) rfl (by kernel_rfl) (by kernel_rfl) (by kernel_rfl) (fun _ _ _ h => h) (Or.inl ⟨by rfl, ?hy1r9⟩) (by exact hHeld) ?_
                case hy1r9 => (intro w hSw; (try dsimp only at hSw); go_simp; try (with_reducible rfl))
                try simp only [Act.put, List.setIfInBounds_toArray, List.set_cons_zero, List.set_cons_succ]
                refine wpAnyH_take (i := 2) (oi := { dst := some 25, op := Op.move (Operand.tmp 24), type := 4, pos := "ref.go:120", after := #[{ on := 1, ground := Ground.data }], guard := none }) (v := ?v2r9) rfl (by kernel_rfl) (by kernel_rfl) (by kernel_rfl) (fun _ _ _ h => h) (Or.inl ⟨by rfl, ?hy2r9⟩) (by exact hHeld) ?_
                case hy2r9 => (intro w hSw; (try dsimp only at hSw); go_simp; try (with_reducible rfl))
                try simp only [Act.put, List.setIfInBounds_toArray, List.set_cons_zero, List.set_cons_succ]
                refine wpAnyH_take (i := 3) (oi := { dst := some 26, op := Op.move (Operand.tmp 0), type := 56, pos := "ref.go:120", after := #[{ on := 2, ground := Ground.guard }], guard := some (2, true) }) (v := ?v3r9) rfl (by kernel_rfl) (by kernel_rfl) (by kernel_rfl) (fun _ _ _ h => h) (Or.inl ⟨by rfl, ?hy3r9⟩) (by exact hHeld) ?_
                case hy3r9 => (intro w hSw; (try dsimp only at hSw); go_simp; try (with_reducible rfl))
                try simp only [Act.put, List.setIfInBounds_toArray, List.set_cons_zero, List.set_cons_succ]
                refine wpAnyH_take (i := 4) (oi := { dst := some 27, op := Op.move (Operand.tmp 8), type := 3, pos := "ref.go:120", after := #[{ on := 2, ground := Ground.guard }], guard := some (2, true) }) (v := ?v4r9) rfl (by kernel_rfl) (by kernel_rfl) (by kernel_rfl) (fun _ _ _ h => h) (Or.inl ⟨by rfl, ?hy4r9⟩) (by exact hHeld) ?_
                case hy4r9 => (intro w hSw; (try dsimp only at hSw); go_simp; try (with_reducible rfl))
                try simp only [Act.put, List.setIfInBounds_toArray, List.set_cons_zero, List.set_cons_succ]
                refine wpAnyH_take (i := 5) (oi := { dst := some 28, op := Op.indexAddr 56 (Operand.tmp 26) (Operand.tmp 27), type := 0, pos := "ref.go:120", after := #[{ on := 3, ground := Ground.data }, { on := 4, ground := Ground.data }, { on := 2, ground := Ground.guard }], guard := some (2, true) }) (v := ?v5r9) rfl (by kernel_rfl) (by kernel_rfl) (by kernel_rfl) (fun _ _ _ h => h) (Or.inl ⟨by rfl, ?hy5r9⟩) (by exact hHeld) ?_
                case hy5r9 => (intro w hSw; (try dsimp only at hSw); go_simp; try (with_reducible rfl))
                try simp only [Act.put, List.setIfInBounds_toArray, List.set_cons_zero, List.set_cons_succ]
                refine wpAnyH_take (i := 6) (oi := { dst := some 29, op := Op.fieldAddr 44 (Operand.tmp 28) 0, type := 0, pos := "ref.go:120", after := #[{ on := 5, ground := Ground.data }, { on := 2, ground := Ground.guard }], guard := some (2, true) }) (v := ?v6r9) rfl (by kernel_rfl) (by kernel_rfl) (by kernel_rfl) (fun _ _ _ h => h) (Or.inl ⟨by rfl, ?hy6r9⟩) (by exact hHeld) ?_
                case hy6r9 => (intro w hSw; (try dsimp only at hSw); go_simp; try (with_reducible rfl))
                try simp only [Act.put, List.setIfInBounds_toArray, List.set_cons_zero, List.set_cons_succ]
                refine wpAnyH_take (i := 7) (oi := { dst := some 30, op := Op.load 3 (Operand.tmp 29), type := 3, pos := "ref.go:120", after := #[{ on := 6, ground := Ground.data }, { on := 2, ground := Ground.guard }], guard := some (2, true) }) (v := ?v7r9) rfl (by kernel_rfl) (by kernel_rfl) (by kernel_rfl) (fun _ _ _ h => h) (Or.inl ⟨by rfl, ?hy7r9⟩) (by exact hHeld) ?_
                case hy7r9 => (intro w hSw; (try dsimp only at hSw); go_simp; try (with_reducible rfl))
                try simp only [Act.put, List.setIfInBounds_toArray, List.set_cons_zero, List.set_cons_succ]
                refine wpAnyH_take (i := 8) (oi := { dst := some 31, op := Op.fieldAddr 44 (Operand.tmp 3) 0, type := 0, pos := "ref.go:120", after := #[{ on := 2, ground := Ground.guard }], guard := some (2, true) }) (v := ?v8r9) rfl (by kernel_rfl) (by kernel_rfl) (by kernel_rfl) (fun _ _ _ h => h) (Or.inl ⟨by rfl, ?hy8r9⟩) (by exact hHeld) ?_
                case hy8r9 => (intro w hSw; (try dsimp only at hSw); go_simp; try (with_reducible rfl))
                try simp only [Act.put, List.setIfInBounds_toArray, List.set_cons_zero, List.set_cons_succ]
                refine wpAnyH_take (i := 9) (oi := { dst := some 32, op := Op.load 3 (Operand.tmp 31), type := 3, pos := "ref.go:120", after := #[{ on := 8, ground := Ground.data }, { on := 2, ground := Ground.guard }], guard := some (2, true) }) (v := ?v9r9) rfl (by kernel_rfl) (by kernel_rfl) (by kernel_rfl) (fun _ _ _ h => h) (Or.inl ⟨by rfl, ?hy9r9⟩) (by exact hHeld) ?_
                case hy9r9 => (intro w hSw; (try dsimp only at hSw); go_simp; try (with_reducible rfl))
                try simp only [Act.put, List.setIfInBounds_toArray, List.set_cons_zero, List.set_cons_succ]
                refine wpAnyH_take (i := 10) (oi := { dst := some 33, op := Op.binOp BinOp.geq 3 (Operand.tmp 30) (Operand.tmp 32) 3, type := 4, pos := "ref.go:120", after := #[{ on := 7, ground := Ground.data }, { on := 9, ground := Ground.data }, { on := 2, ground := Ground.guard }], guard := some (2, true) }) (v := ?v10r9) rfl (by kernel_rfl) (by kernel_rfl) (by kernel_rfl) (fun _ _ _ h => h) (Or.inl ⟨by rfl, ?hy10r9⟩) (by exact hHeld) ?_
                case hy10r9 => (intro w hSw; (try dsimp only at hSw); go_simp; try (with_reducible rfl))
                try simp only [Act.put, List.setIfInBounds_toArray, List.set_cons_zero, List.set_cons_succ]
                refine wpAnyH_take (i := 11) (oi := { dst := some 34, op := Op.pick (Operand.tmp 25) (Operand.tmp 33) (Operand.const (Value.bool false)), type := 4, pos := "ref.go:120", after := #[{ on := 2, ground := Ground.data }, { on := 10, ground := Ground.data }], guard := none }) (v := ?v11r9) rfl (by kernel_rfl) (by kernel_rfl) (by kernel_rfl) (fun _ _ _ h => h) (Or.inl ⟨by rfl, ?hy11r9⟩) (by exact hHeld) ?_
                case hy11r9 => (intro w hSw; (try dsimp only at hSw); go_simp; try (with_reducible rfl))
                try simp only [Act.put, List.setIfInBounds_toArray, List.set_cons_zero, List.set_cons_succ]
                refine wpAnyH_done (by kernel_rfl) ?_ _
                clear S0 f0 f1 f2 k0 k1 k2
                have HOd := hide (And.intro ((unhide HO).1.bw (Below.refl _ _).drew) ((unhide HO).2.drew))
                generalize World.drew wr = wd at HOd ⊢
                have k0 : World.cell? wd ⟨w.heap.size, 0, none⟩ = some (.int .i64 cu) := (unhide HK wd (unhide HOd).2).1
                have k1 : World.cell? wd ⟨w.heap.size, 1, none⟩ = some (.int .i64 ce) := (unhide HK wd (unhide HOd).2).2.1
                have k2 : World.cell? wd ⟨w.heap.size, 2, none⟩ = some (.int .i64 cp) := (unhide HK wd (unhide HOd).2).2.2
                go_wp2_with (at_builtin; refine wpList_append_own _ rfl (.tmp 35) (.tmp 37) 56 rfl w0.heap.size 44 j0 (.agg #[.int .i64 0, .int .i64 0, .int .i64 0]) 3 24 Tryz.underlying56 hj hy0 hy1 hyb rfl (by decide) _ _ _ rfl (World.ownsRow.alloc (unhide HOd).1.row _) ⟨wd.heap.size, 0, none⟩ 1 1 [.int .i64 cu, .int .i64 ce, .int .i64 cp] rfl rfl (cells_newM wd [.int .i64 cu, .int .i64 ce, .int .i64 cp] 44) (card_one _ _ _) ?c3c ?c4c ?c5c ?nxc)
                case c3c => have := unhide HN; unfold maxLen; omega
                case c4c => have := unhide HN; omega
                case c5c => have := (unhide HOd).2.size; simp; omega
                case nxc =>
                  intro v5 w5 hown hgrow _
                  obtain ⟨L5, hL2⟩ : ∃ z, z = L ++ [(⟨cu, ce, cp⟩ : Cd)] := ⟨_, rfl⟩
                  have Q := own_snocC (c := ⟨cu, ce, cp⟩) (unhide HOd).1 (unhide HOd).2 (by simpa [cdC] using hown) hgrow
                  rw [← hL2] at Q
                  have HO5 := hide Q
                  have HL5 := hide hL2
                  have HN5 : Hid (L5.length ≤ 524289) := by have := unhide HN; have e_ : L5.length = L.length + 1 := (by rw [hL2]; simp); unfold Hid; omega
                  obtain ⟨ac, cc, e_⟩ := own_slice Q.1.row
                  clear Q hown hgrow hL2
                  subst e_
                  clear k0 k1 k2
                  obtain ⟨f0, f1, f2⟩ := unhide HP w5 (unhide HO5).2
                  have k0 : World.cell? w5 ⟨w.heap.size, 0, none⟩ = some (.int .i64 cu) := (unhide HK w5 (unhide HO5).2).1
                  have k1 : World.cell? w5 ⟨w.heap.size, 1, none⟩ = some (.int .i64 ce) := (unhide HK w5 (unhide HO5).2).2.1
                  have k2 : World.cell? w5 ⟨w.heap.size, 2, none⟩ = some (.int .i64 cp) := (unhide HK w5 (unhide HO5).2).2.2
                  have S0 : w5.cell? ⟨gb, o + i * 3, none⟩ = some (.int .i64 us) ∧ w5.cell? ⟨w.heap.size, 0, none⟩ = some (.int .i64 cu) := ⟨f0, k0⟩
                  go_upto_region 11 with fail
                  refine wp_region_held_drew (S := fun w' : World => w'.cell? ⟨gb, o + i * 3, none⟩ = some (.int .i64 us) ∧ w'.cell? ⟨w.heap.size, 0, none⟩ = some (.int .i64 cu)) (by kernel_rfl) S0 (fun hHeld => ?_)
                  refine wpAnyH_take (i := 0) (oi := { dst := some 39, op := Op.move (Operand.tmp 0), type := 56, pos := "ref.go:124", after := #[], guard := none }) (v := ?v0r10) rfl (by kernel_rfl) (by kernel_rfl) (by kernel_rfl) (fun _ _ _ h => h) (Or.inl ⟨by rfl, ?hy0r10⟩) (by exact hHeld) ?_
                  case hy0r10 => (intro w hSw; (try dsimp only at hSw); go_simp; try (with_reducible rfl))
                  try simp only [Act.put, List.setIfInBounds_toArray, List.set_cons_zero, List.set_cons_succ]
                  refine wpAnyH_take (i := 1) (oi := { dst := some 40, op := Op.move (Operand.tmp 8), type := 3, pos := "ref.go:124", after := #[], guard := none }) (v := ?v1r10) rfl (by kernel_rfl) (by kernel_rfl) (by kernel_rfl) (fun _ _ _ h => h) (Or.inl ⟨by rfl, ?hy1r10⟩) (by exact hHeld) ?_
                  case hy1r10 => (intro w hSw; (try dsimp only at hSw); go_simp; try (with_reducible rfl))
                  try simp only [Act.put, List.setIfInBounds_toArray, List.set_cons_zero, List.set_cons_succ]
                  refine wpAnyH_take (i := 2) (oi := { dst := some 41, op := Op.indexAddr 56 (Operand.tmp 39) (Operand.tmp 40), type := 0, pos := "ref.go:124", after := #[{ on := 0, ground := Ground.data }, { on := 1, ground := Ground.data }], guard := none }) (v := ?v2r10) rfl (by kernel_rfl) (by kernel_rfl) (by kernel_rfl) (fun _ _ _ h => h) (Or.inl ⟨by rfl, ?hy2r10⟩) (by exact hHeld) ?_
                  case hy2r10 => (intro w hSw; (try dsimp only at hSw); go_simp; try (with_reducible rfl))
                  try simp only [Act.put, List.setIfInBounds_toArray, List.set_cons_zero, List.set_cons_succ]
                  refine wpAnyH_take (i := 3) (oi := { dst := some 42, op := Op.fieldAddr 44 (Operand.tmp 41) 0, type := 0, pos := "ref.go:124", after := #[{ on := 2, ground := Ground.data }], guard := none }) (v := ?v3r10) rfl (by kernel_rfl) (by kernel_rfl) (by kernel_rfl) (fun _ _ _ h => h) (Or.inl ⟨by rfl, ?hy3r10⟩) (by exact hHeld) ?_
                  case hy3r10 => (intro w hSw; (try dsimp only at hSw); go_simp; try (with_reducible rfl))
                  try simp only [Act.put, List.setIfInBounds_toArray, List.set_cons_zero, List.set_cons_succ]
                  refine wpAnyH_take (i := 4) (oi := { dst := some 43, op := Op.load 3 (Operand.tmp 42), type := 3, pos := "ref.go:124", after := #[{ on := 3, ground := Ground.data }], guard := none }) (v := ?v4r10) rfl (by kernel_rfl) (by kernel_rfl) (by kernel_rfl) (fun _ _ _ h => h) (Or.inl ⟨by rfl, ?hy4r10⟩) (by exact hHeld) ?_
                  case hy4r10 => (intro w hSw; (try dsimp only at hSw); go_simp; try (with_reducible rfl))
                  try simp only [Act.put, List.setIfInBounds_toArray, List.set_cons_zero, List.set_cons_succ]
                  refine wpAnyH_take (i := 5) (oi := { dst := some 44, op := Op.fieldAddr 44 (Operand.tmp 3) 0, type := 0, pos := "ref.go:124", after := #[], guard := none }) (v := ?v5r10) rfl (by kernel_rfl) (by kernel_rfl) (by kernel_rfl) (fun _ _ _ h => h) (Or.inl ⟨by rfl, ?hy5r10⟩) (by exact hHeld) ?_
                  case hy5r10 => (intro w hSw; (try dsimp only at hSw); go_simp; try (with_reducible rfl))
                  try simp only [Act.put, List.setIfInBounds_toArray, List.set_cons_zero, List.set_cons_succ]
                  refine wpAnyH_take (i := 6) (oi := { dst := some 45, op := Op.load 3 (Operand.tmp 44), type := 3, pos := "ref.go:124", after := #[{ on := 5, ground := Ground.data }], guard := none }) (v := ?v6r10) rfl (by kernel_rfl) (by kernel_rfl) (by kernel_rfl) (fun _ _ _ h => h) (Or.inl ⟨by rfl, ?hy6r10⟩) (by exact hHeld) ?_
                  case hy6r10 => (intro w hSw; (try dsimp only at hSw); go_simp; try (with_reducible rfl))
                  try simp only [Act.put, List.setIfInBounds_toArray, List.set_cons_zero, List.set_cons_succ]
                  refine wpAnyH_take (i := 7) (oi := { dst := some 46, op := Op.binOp BinOp.neq 3 (Operand.tmp 43) (Operand.tmp 45) 3, type := 4, pos := "ref.go:124", after := #[{ on := 4, ground := Ground.data }, { on := 6, ground := Ground.data }], guard := none }) (v := ?v7r10) rfl (by kernel_rfl) (by kernel_rfl) (by kernel_rfl) (fun _ _ _ h => h) (Or.inl ⟨by rfl, ?hy7r10⟩) (by exact hHeld) ?_
                  case hy7r10 => (intro w hSw; (try dsimp only at hSw); go_simp; try (with_reducible rfl))
                  try simp only [Act.put, List.setIfInBounds_toArray, List.set_cons_zero, List.set_cons_succ]
                  refine wpAnyH_done (by kernel_rfl) ?_ _
                  clear S0 f0 f1 f2 k0 k1 k2
                  have HOz := hide (And.intro ((unhide HO5).1.bw (Below.refl _ _).drew) ((unhide HO5).2.drew))
                  generalize World.drew w5 = wz at HOz ⊢
                  obtain ⟨f0, f1, f2⟩ := unhide HP wz (unhide HOz).2
                  go_wp2_with (at_builtin; refine wpList_append_own _ rfl (.tmp 47) (.tmp 52) 56 rfl w0.heap.size 44 j0 (.agg #[.int .i64 0, .int .i64 0, .int .i64 0]) 3 24 Tryz.underlying56 hj hy0 hy1 hyb rfl (by decide) _ _ _ rfl (World.ownsRow.alloc (unhide HOz).1.row _) ⟨wz.heap.size, 0, none⟩ 1 1 [.int .i64 us, .int .i64 ep, .int .i64 pb] rfl rfl (cells_newM wz [.int .i64 us, .int .i64 ep, .int .i64 pb] 44) (card_one _ _ _) ?c3e ?c4e ?c5e ?nxe)
                  case c3e => have := unhide HN5; unfold maxLen; omega
                  case c4e => have := unhide HN5; omega
                  case c5e => have := (unhide HOz).2.size; simp; omega
                  case nxe =>
                    intro v6 w6 hown hgrow _
                    obtain ⟨L6, hL2⟩ : ∃ z, z = L5 ++ [(⟨us, ep, pb⟩ : Cd)] := ⟨_, rfl⟩
                    have Q := own_snocC (c := ⟨us, ep, pb⟩) (unhide HOz).1 (unhide HOz).2 (by simpa [cdC] using hown) hgrow
                    rw [← hL2] at Q
                    have HO6 := hide Q
                    have HL6 := hide hL2
                    have HN6 : Hid (L6.length ≤ 524290) := by have := unhide HN5; have e_ : L6.length = L5.length + 1 := (by rw [hL2]; simp); unfold Hid; omega
                    obtain ⟨ae, ce, e_⟩ := own_slice Q.1.row
                    clear Q hown hgrow hL2
                    subst e_
                    have HX := hide (unhide HSt L6 true (by rw [unhide HL6, unhide HL5]; exact dstep_a hge hne))
                    clear f0 f1 f2
                    go_wp2_with fail
                    go_roundw
                    case rel => exact ⟨i + 1, L6, _, true, _, _, by go_num, by omega, rfl, rfl, HX, HO6⟩
                    case measure => simp only [intOf]; omega
            · have hne : us ≠ cu := by omega
              have hng : ¬ cu ≤ us := hge
              have g1 : decide (cu ≤ us) = false := decide_eq_false hge
              have n1 : (us != cu) = true := by simp [hne]
              have n2 : decide (us = cu) = false := decide_eq_false hne
              have n3 : (us == cu) = false := by simp [hne]
              have S0 : wr.cell? ⟨gb, o + i * 3, none⟩ = some (.int .i64 us) ∧ wr.cell? ⟨w.heap.size, 0, none⟩ = some (.int .i64 cu) := ⟨f0, k0⟩
              go_upto_region 8 with fail
              refine wp_region_held_drew (S := fun w' : World => w'.cell? ⟨gb, o + i * 3, none⟩ = some (.int .i64 us) ∧ w'.cell? ⟨w.heap.size, 0, none⟩ = some (.int .i64 cu)) (by kernel_rfl) S0 (fun hHeld => ?_)
              refine wpAnyH_take (i := 0) (oi := { dst := some 23, op := Op.move (Operand.tmp 7), type := 4, pos := "ref.go:120", after := #[], guard := none }) (v := ?v0r11) rfl (by kernel_rfl) (by kernel_rfl) (by kernel_rfl) (fun _ _ _ h => h) (Or.inl ⟨by rfl, ?hy0r11⟩) (by exact hHeld) ?_
              case hy0r11 => (intro w hSw; (try dsimp only at hSw); go_simp; try (with_reducible rfl))
              try simp only [Act.put, List.setIfInBounds_toArray, List.set_cons_zero, List.set_cons_succ]
              refine wpAnyH_take (i := 1) (oi := { dst := some 24, op := Op.unOp UnOp.not 4 (Operand.tmp 23), type := 4, pos := "ref.go:120", after := #[{ on := 0, ground := Ground.data }], guard := none }) (v := ?v1r11) rfl (by kernel_rfl) (by kernel_rfl) (by kernel_rfl) (fun _ _ _ h => h) (Or.inl ⟨by rfl, ?hy1r11⟩) (by exact hHeld) ?_
              case hy1r11 => (intro w hSw; (try dsimp only at hSw); go_simp; try (with_reducible rfl))
              try simp only [Act.put, List.setIfInBounds_toArray, List.set_cons_zero, List.set_cons_succ]
              refine wpAnyH_take (i := 2) (oi := { dst := some 25, op := Op.move (Operand.tmp 24), type := 4, pos := "ref.go:120", after := #[{ on := 1, ground := Ground.data }], guard := none }) (v := ?v2r11) rfl (by kernel_rfl) (by kernel_rfl) (by kernel_rfl) (fun _ _ _ h => h) (Or.inl ⟨by rfl, ?hy2r11⟩) (by exact hHeld) ?_
              case hy2r11 => (intro w hSw; (try dsimp only at hSw); go_simp; try (with_reducible rfl))
              try simp only [Act.put, List.setIfInBounds_toArray, List.set_cons_zero, List.set_cons_succ]
              refine wpAnyH_take (i := 3) (oi := { dst := some 26, op := Op.move (Operand.tmp 0), type := 56, pos := "ref.go:120", after := #[{ on := 2, ground := Ground.guard }], guard := some (2, true) }) (v := ?v3r11) rfl (by kernel_rfl) (by kernel_rfl) (by kernel_rfl) (fun _ _ _ h => h) (Or.inl ⟨by rfl, ?hy3r11⟩) (by exact hHeld) ?_
              case hy3r11 => (intro w hSw; (try dsimp only at hSw); go_simp; try (with_reducible rfl))
              try simp only [Act.put, List.setIfInBounds_toArray, List.set_cons_zero, List.set_cons_succ]
              refine wpAnyH_take (i := 4) (oi := { dst := some 27, op := Op.move (Operand.tmp 8), type := 3, pos := "ref.go:120", after := #[{ on := 2, ground := Ground.guard }], guard := some (2, true) }) (v := ?v4r11) rfl (by kernel_rfl) (by kernel_rfl) (by kernel_rfl) (fun _ _ _ h => h) (Or.inl ⟨by rfl, ?hy4r11⟩) (by exact hHeld) ?_
              case hy4r11 => (intro w hSw; (try dsimp only at hSw); go_simp; try (with_reducible rfl))
              try simp only [Act.put, List.setIfInBounds_toArray, List.set_cons_zero, List.set_cons_succ]
              refine wpAnyH_take (i := 5) (oi := { dst := some 28, op := Op.indexAddr 56 (Operand.tmp 26) (Operand.tmp 27), type := 0, pos := "ref.go:120", after := #[{ on := 3, ground := Ground.data }, { on := 4, ground := Ground.data }, { on := 2, ground := Ground.guard }], guard := some (2, true) }) (v := ?v5r11) rfl (by kernel_rfl) (by kernel_rfl) (by kernel_rfl) (fun _ _ _ h => h) (Or.inl ⟨by rfl, ?hy5r11⟩) (by exact hHeld) ?_
              case hy5r11 => (intro w hSw; (try dsimp only at hSw); go_simp; try (with_reducible rfl))
              try simp only [Act.put, List.setIfInBounds_toArray, List.set_cons_zero, List.set_cons_succ]
              refine wpAnyH_take (i := 6) (oi := { dst := some 29, op := Op.fieldAddr 44 (Operand.tmp 28) 0, type := 0, pos := "ref.go:120", after := #[{ on := 5, ground := Ground.data }, { on := 2, ground := Ground.guard }], guard := some (2, true) }) (v := ?v6r11) rfl (by kernel_rfl) (by kernel_rfl) (by kernel_rfl) (fun _ _ _ h => h) (Or.inl ⟨by rfl, ?hy6r11⟩) (by exact hHeld) ?_
              case hy6r11 => (intro w hSw; (try dsimp only at hSw); go_simp; try (with_reducible rfl))
              try simp only [Act.put, List.setIfInBounds_toArray, List.set_cons_zero, List.set_cons_succ]
              refine wpAnyH_take (i := 7) (oi := { dst := some 30, op := Op.load 3 (Operand.tmp 29), type := 3, pos := "ref.go:120", after := #[{ on := 6, ground := Ground.data }, { on := 2, ground := Ground.guard }], guard := some (2, true) }) (v := ?v7r11) rfl (by kernel_rfl) (by kernel_rfl) (by kernel_rfl) (fun _ _ _ h => h) (Or.inl ⟨by rfl, ?hy7r11⟩) (by exact hHeld) ?_
              case hy7r11 => (intro w hSw; (try dsimp only at hSw); go_simp; try (with_reducible rfl))
              try simp only [Act.put, List.setIfInBounds_toArray, List.set_cons_zero, List.set_cons_succ]
              refine wpAnyH_take (i := 8) (oi := { dst := some 31, op := Op.fieldAddr 44 (Operand.tmp 3) 0, type := 0, pos := "ref.go:120", after := #[{ on := 2, ground := Ground.guard }], guard := some (2, true) }) (v := ?v8r11) rfl (by kernel_rfl) (by kernel_rfl) (by kernel_rfl) (fun _ _ _ h => h) (Or.inl ⟨by rfl, ?hy8r11⟩) (by exact hHeld) ?_
              case hy8r11 => (intro w hSw; (try dsimp only at hSw); go_simp; try (with_reducible rfl))
              try simp only [Act.put, List.setIfInBounds_toArray, List.set_cons_zero, List.set_cons_succ]
              refine wpAnyH_take (i := 9) (oi := { dst := some 32, op := Op.load 3 (Operand.tmp 31), type := 3, pos := "ref.go:120", after := #[{ on := 8, ground := Ground.data }, { on := 2, ground := Ground.guard }], guard := some (2, true) }) (v := ?v9r11) rfl (by kernel_rfl) (by kernel_rfl) (by kernel_rfl) (fun _ _ _ h => h) (Or.inl ⟨by rfl, ?hy9r11⟩) (by exact hHeld) ?_
              case hy9r11 => (intro w hSw; (try dsimp only at hSw); go_simp; try (with_reducible rfl))
              try simp only [Act.put, List.setIfInBounds_toArray, List.set_cons_zero, List.set_cons_succ]
              refine wpAnyH_take (i := 10) (oi := { dst := some 33, op := Op.binOp BinOp.geq 3 (Operand.tmp 30) (Operand.tmp 32) 3, type := 4, pos := "ref.go:120", after := #[{ on := 7, ground := Ground.data }, { on := 9, ground := Ground.data }, { on := 2, ground := Ground.guard }], guard := some (2, true) }) (v := ?v10r11) rfl (by kernel_rfl) (by kernel_rfl) (by kernel_rfl) (fun _ _ _ h => h) (Or.inl ⟨by rfl, ?hy10r11⟩) (by exact hHeld) ?_
              case hy10r11 => (intro w hSw; (try dsimp only at hSw); go_simp; try (with_reducible rfl))
              try simp only [Act.put, List.setIfInBounds_toArray, List.set_cons_zero, List.set_cons_succ]
              refine wpAnyH_take (i := 11) (oi := { dst := some 34, op := Op.pick (Operand.tmp 25) (Operand.tmp 33) (Operand.const (Value.bool false)), type := 4, pos := "ref.go:120", after := #[{ on := 2, ground := Ground.data }, { on := 10, ground := Ground.data }], guard := none }) (v := ?v11r11) rfl (by kernel_rfl) (by kernel_rfl) (by kernel_rfl) (fun _ _ _ h => h) (Or.inl ⟨by rfl, ?hy11r11⟩) (by exact hHeld) ?_
              case hy11r11 => (intro w hSw; (try dsimp only at hSw); go_simp; try (with_reducible rfl))
              try simp only [Act.put, List.setIfInBounds_toArray, List.set_cons_zero, List.set_cons_succ]
              refine wpAnyH_done (by kernel_rfl) ?_ _
              clear S0 f0 f1 f2 k0 k1 k2
              have HOd := hide (And.intro ((unhide HO).1.bw (Below.refl _ _).drew) ((unhide HO).2.drew))
              generalize World.drew wr = wd at HOd ⊢
              obtain ⟨f0, f1, f2⟩ := unhide HP wd (unhide HOd).2
              have k0 : World.cell? wd ⟨w.heap.size, 0, none⟩ = some (.int .i64 cu) := (unhide HK wd (unhide HOd).2).1
              have k1 : World.cell? wd ⟨w.heap.size, 1, none⟩ = some (.int .i64 ce) := (unhide HK wd (unhide HOd).2).2.1
              have k2 : World.cell? wd ⟨w.heap.size, 2, none⟩ = some (.int .i64 cp) := (unhide HK wd (unhide HOd).2).2.2
              have S0 : wd.cell? ⟨gb, o + i * 3, none⟩ = some (.int .i64 us) ∧ wd.cell? ⟨w.heap.size, 0, none⟩ = some (.int .i64 cu) := ⟨f0, k0⟩
              go_upto_region 11 with fail
              refine wp_region_held_drew (S := fun w' : World => w'.cell? ⟨gb, o + i * 3, none⟩ = some (.int .i64 us) ∧ w'.cell? ⟨w.heap.size, 0, none⟩ = some (.int .i64 cu)) (by kernel_rfl) S0 (fun hHeld => ?_)
              refine wpAnyH_take (i := 0) (oi := { dst := some 39, op := Op.move (Operand.tmp 0), type := 56, pos := "ref.go:124", after := #[], guard := none }) (v := ?v0r12) rfl (by kernel_rfl) (by kernel_rfl) (by kernel_rfl) (fun _ _ _ h => h) (Or.inl ⟨by rfl, ?hy0r12⟩) (by exact hHeld) ?_
              case hy0r12 => (intro w hSw; (try dsimp only at hSw); go_simp; try (with_reducible rfl))
              try simp only [Act.put, List.setIfInBounds_toArray, List.set_cons_zero, List.set_cons_succ]
              refine wpAnyH_take (i := 1) (oi := { dst := some 40, op := Op.move (Operand.tmp 8), type := 3, pos := "ref.go:124", after := #[], guard := none }) (v := ?v1r12) rfl (by kernel_rfl) (by kernel_rfl) (by kernel_rfl) (fun _ _ _ h => h) (Or.inl ⟨by rfl, ?hy1r12⟩) (by exact hHeld) ?_
              case hy1r12 => (intro w hSw; (try dsimp only at hSw); go_simp; try (with_reducible rfl))
              try simp only [Act.put, List.setIfInBounds_toArray, List.set_cons_zero, List.set_cons_succ]
              refine wpAnyH_take (i := 2) (oi := { dst := some 41, op := Op.indexAddr 56 (Operand.tmp 39) (Operand.tmp 40), type := 0, pos := "ref.go:124", after := #[{ on := 0, ground := Ground.data }, { on := 1, ground := Ground.data }], guard := none }) (v := ?v2r12) rfl (by kernel_rfl) (by kernel_rfl) (by kernel_rfl) (fun _ _ _ h => h) (Or.inl ⟨by rfl, ?hy2r12⟩) (by exact hHeld) ?_
              case hy2r12 => (intro w hSw; (try dsimp only at hSw); go_simp; try (with_reducible rfl))
              try simp only [Act.put, List.setIfInBounds_toArray, List.set_cons_zero, List.set_cons_succ]
              refine wpAnyH_take (i := 3) (oi := { dst := some 42, op := Op.fieldAddr 44 (Operand.tmp 41) 0, type := 0, pos := "ref.go:124", after := #[{ on := 2, ground := Ground.data }], guard := none }) (v := ?v3r12) rfl (by kernel_rfl) (by kernel_rfl) (by kernel_rfl) (fun _ _ _ h => h) (Or.inl ⟨by rfl, ?hy3r12⟩) (by exact hHeld) ?_
              case hy3r12 => (intro w hSw; (try dsimp only at hSw); go_simp; try (with_reducible rfl))
              try simp only [Act.put, List.setIfInBounds_toArray, List.set_cons_zero, List.set_cons_succ]
              refine wpAnyH_take (i := 4) (oi := { dst := some 43, op := Op.load 3 (Operand.tmp 42), type := 3, pos := "ref.go:124", after := #[{ on := 3, ground := Ground.data }], guard := none }) (v := ?v4r12) rfl (by kernel_rfl) (by kernel_rfl) (by kernel_rfl) (fun _ _ _ h => h) (Or.inl ⟨by rfl, ?hy4r12⟩) (by exact hHeld) ?_
              case hy4r12 => (intro w hSw; (try dsimp only at hSw); go_simp; try (with_reducible rfl))
              try simp only [Act.put, List.setIfInBounds_toArray, List.set_cons_zero, List.set_cons_succ]
              refine wpAnyH_take (i := 5) (oi := { dst := some 44, op := Op.fieldAddr 44 (Operand.tmp 3) 0, type := 0, pos := "ref.go:124", after := #[], guard := none }) (v := ?v5r12) rfl (by kernel_rfl) (by kernel_rfl) (by kernel_rfl) (fun _ _ _ h => h) (Or.inl ⟨by rfl, ?hy5r12⟩) (by exact hHeld) ?_
              case hy5r12 => (intro w hSw; (try dsimp only at hSw); go_simp; try (with_reducible rfl))
              try simp only [Act.put, List.setIfInBounds_toArray, List.set_cons_zero, List.set_cons_succ]
              refine wpAnyH_take (i := 6) (oi := { dst := some 45, op := Op.load 3 (Operand.tmp 44), type := 3, pos := "ref.go:124", after := #[{ on := 5, ground := Ground.data }], guard := none }) (v := ?v6r12) rfl (by kernel_rfl) (by kernel_rfl) (by kernel_rfl) (fun _ _ _ h => h) (Or.inl ⟨by rfl, ?hy6r12⟩) (by exact hHeld) ?_
              case hy6r12 => (intro w hSw; (try dsimp only at hSw); go_simp; try (with_reducible rfl))
              try simp only [Act.put, List.setIfInBounds_toArray, List.set_cons_zero, List.set_cons_succ]
              refine wpAnyH_take (i := 7) (oi := { dst := some 46, op := Op.binOp BinOp.neq 3 (Operand.tmp 43) (Operand.tmp 45) 3, type := 4, pos := "ref.go:124", after := #[{ on := 4, ground := Ground.data }, { on := 6, ground := Ground.data }], guard := none }) (v := ?v7r12) rfl (by kernel_rfl) (by kernel_rfl) (by kernel_rfl) (fun _ _ _ h => h) (Or.inl ⟨by rfl, ?hy7r12⟩) (by exact hHeld) ?_
              case hy7r12 => (intro w hSw; (try dsimp only at hSw); go_simp; try (with_reducible rfl))
              try simp only [Act.put, List.setIfInBounds_toArray, List.set_cons_zero, List.set_cons_succ]
              refine wpAnyH_done (by kernel_rfl) ?_ _
              clear S0 f0 f1 f2 k0 k1 k2
              have HOz := hide (And.intro ((unhide HOd).1.bw (Below.refl _ _).drew) ((unhide HOd).2.drew))
              generalize World.drew wd = wz at HOz ⊢
              obtain ⟨f0, f1, f2⟩ := unhide HP wz (unhide HOz).2
              go_wp2_with (at_builtin; refine wpList_append_own _ rfl (.tmp 47) (.tmp 52) 56 rfl w0.heap.size 44 j0 (.agg #[.int .i64 0, .int .i64 0, .int .i64 0]) 3 24 Tryz.underlying56 hj hy0 hy1 hyb rfl (by decide) _ _ _ rfl (World.ownsRow.alloc (unhide HOz).1.row _) ⟨wz.heap.size, 0, none⟩ 1 1 [.int .i64 us, .int .i64 ep, .int .i64 pb] rfl rfl (cells_newM wz [.int .i64 us, .int .i64 ep, .int .i64 pb] 44) (card_one _ _ _) ?c3e ?c4e ?c5e ?nxe)
              case c3e => have := unhide HN; unfold maxLen; omega
              case c4e => have := unhide HN; omega
              case c5e => have := (unhide HOz).2.size; simp; omega
              case nxe =>
                intro v6 w6 hown hgrow _
                obtain ⟨L6, hL2⟩ : ∃ z, z = L ++ [(⟨us, ep, pb⟩ : Cd)] := ⟨_, rfl⟩
                have Q := own_snocC (c := ⟨us, ep, pb⟩) (unhide HOz).1 (unhide HOz).2 (by simpa [cdC] using hown) hgrow
                rw [← hL2] at Q
                have HO6 := hide Q
                have HL6 := hide hL2
                have HN6 : Hid (L6.length ≤ 524290) := by have := unhide HN; have e_ : L6.length = L.length + 1 := (by rw [hL2]; simp); unfold Hid; omega
                obtain ⟨ae, ce, e_⟩ := own_slice Q.1.row
                clear Q hown hgrow hL2
                subst e_
                have HX := hide (unhide HSt L6 false (by rw [unhide HL6]; exact dstep_c (show ¬ cu ≤ us by omega) hne))
                clear f0 f1 f2
                go_wp2_with fail
                go_roundw
                case rel => exact ⟨i + 1, L6, _, false, _, _, by go_num, by omega, rfl, rfl, HX, HO6⟩
                case measure => simp only [intOf]; omega
          | true =>
            by_cases hne : us = cu
            · have n1 : (us != cu) = false := by simp [hne]
              have n2 : decide (us = cu) = true := decide_eq_true hne
              have n3 : (us == cu) = true := by simp [hne]
              have S0 : wr.cell? ⟨gb, o + i * 3, none⟩ = some (.int .i64 us) ∧ wr.cell? ⟨w.heap.size, 0, none⟩ = some (.int .i64 cu) := ⟨f0, k0⟩
              go_upto_region 8 with fail
              refine wp_region_held_drew (S := fun w' : World => w'.cell? ⟨gb, o + i * 3, none⟩ = some (.int .i64 us) ∧ w'.cell? ⟨w.heap.size, 0, none⟩ = some (.int .i64 cu)) (by kernel_rfl) S0 (fun hHeld => ?_)
              refine wpAnyH_take (i := 0) (oi := { dst := some 23, op := Op.move (Operand.tmp 7), type := 4, pos := "ref.go:120", after := #[], guard := none }) (v := ?v0r13) rfl (by kernel_rfl) (by kernel_rfl) (by kernel_rfl) (fun _ _ _ h => h) (Or.inl ⟨by rfl, ?hy0r13⟩) (by exact hHeld) ?_
              case hy0r13 => (intro w hSw; (try dsimp only at hSw); go_simp; try (with_reducible rfl))
              try simp only [Act.put, List.setIfInBounds_toArray, List.set_cons_zero, List.set_cons_succ]
              refine wpAnyH_take (i := 1) (oi := { dst := some 24, op := Op.unOp UnOp.not 4 (Operand.tmp 23), type := 4, pos := "ref.go:120", after := #[{ on := 0, ground := Ground.data }], guard := none }) (v := ?v1r13) rfl (by kernel_rfl) (by kernel_rfl) (by kernel_rfl) (fun _ _ _ h => h) (Or.inl ⟨by rfl, ?hy1r13⟩) (by exact hHeld) ?_
              case hy1r13 => (intro w hSw; (try dsimp only at hSw); go_simp; try (with_reducible rfl))
              try simp only [Act.put, List.setIfInBounds_toArray, List.set_cons_zero, List.set_cons_succ]
              refine wpAnyH_take (i := 2) (oi := { dst := some 25, op := Op.move (Operand.tmp 24), type := 4, pos := "ref.go:120", after := #[{ on := 1, ground := Ground.data }], guard := none }) (v := ?v2r13) rfl (by kernel_rfl) (by kernel_rfl) (by kernel_rfl) (fun _ _ _ h => h) (Or.inl ⟨by rfl, ?hy2r13⟩) (by exact hHeld) ?_
              case hy2r13 => (intro w hSw; (try dsimp only at hSw); go_simp; try (with_reducible rfl))
              try simp only [Act.put, List.setIfInBounds_toArray, List.set_cons_zero, List.set_cons_succ]
              refine wpAnyH_take (i := 3) (oi := { dst := some 26, op := Op.move (Operand.tmp 0), type := 56, pos := "ref.go:120", after := #[{ on := 2, ground := Ground.guard }], guard := some (2, true) }) (v := undef) rfl (by kernel_rfl) (by kernel_rfl) (by kernel_rfl) (fun _ _ _ h => h) (Or.inr ⟨by rfl, rfl⟩) (by exact hHeld) ?_
              try simp only [Act.put, List.setIfInBounds_toArray, List.set_cons_zero, List.set_cons_succ]
              refine wpAnyH_take (i := 4) (oi := { dst := some 27, op := Op.move (Operand.tmp 8), type := 3, pos := "ref.go:120", after := #[{ on := 2, ground := Ground.guard }], guard := some (2, true) }) (v := undef) rfl (by kernel_rfl) (by kernel_rfl) (by kernel_rfl) (fun _ _ _ h => h) (Or.inr ⟨by rfl, rfl⟩) (by exact hHeld) ?_
              try simp only [Act.put, List.setIfInBounds_toArray, List.set_cons_zero, List.set_cons_succ]
              refine wpAnyH_take (i := 5) (oi := { dst := some 28, op := Op.indexAddr 56 (Operand.tmp 26) (Operand.tmp 27), type := 0, pos := "ref.go:120", after := #[{ on := 3, ground := Ground.data }, { on := 4, ground := Ground.data }, { on := 2, ground := Ground.guard }], guard := some (2, true) }) (v := undef) rfl (by kernel_rfl) (by kernel_rfl) (by kernel_rfl) (fun _ _ _ h => h) (Or.inr ⟨by rfl, rfl⟩) (by exact hHeld) ?_
              try simp only [Act.put, List.setIfInBounds_toArray, List.set_cons_zero, List.set_cons_succ]
              refine wpAnyH_take (i := 6) (oi := { dst := some 29, op := Op.fieldAddr 44 (Operand.tmp 28) 0, type := 0, pos := "ref.go:120", after := #[{ on := 5, ground := Ground.data }, { on := 2, ground := Ground.guard }], guard := some (2, true) }) (v := undef) rfl (by kernel_rfl) (by kernel_rfl) (by kernel_rfl) (fun _ _ _ h => h) (Or.inr ⟨by rfl, rfl⟩) (by exact hHeld) ?_
              try simp only [Act.put, List.setIfInBounds_toArray, List.set_cons_zero, List.set_cons_succ]
              refine wpAnyH_take (i := 7) (oi := { dst := some 30, op := Op.load 3 (Operand.tmp 29), type := 3, pos := "ref.go:120", after := #[{ on := 6, ground := Ground.data }, { on := 2, ground := Ground.guard }], guard := some (2, true) }) (v := undef) rfl (by kernel_rfl) (by kernel_rfl) (by kernel_rfl) (fun _ _ _ h => h) (Or.inr ⟨by rfl, rfl⟩) (by exact hHeld) ?_
              try simp only [Act.put, List.setIfInBounds_toArray, List.set_cons_zero, List.set_cons_succ]
              refine wpAnyH_take (i := 8) (oi := { dst := some 31, op := Op.fieldAddr 44 (Operand.tmp 3) 0, type := 0, pos := "ref.go:120", after := #[{ on := 2, ground := Ground.guard }], guard := some (2, true) }) (v := undef) rfl (by kernel_rfl) (by kernel_rfl) (by kernel_rfl) (fun _ _ _ h => h) (Or.inr ⟨by rfl, rfl⟩) (by exact hHeld) ?_
              try simp only [Act.put, List.setIfInBounds_toArray, List.set_cons_zero, List.set_cons_succ]
              refine wpAnyH_take (i := 9) (oi := { dst := some 32, op := Op.load 3 (Operand.tmp 31), type := 3, pos := "ref.go:120", after := #[{ on := 8, ground := Ground.data }, { on := 2, ground := Ground.guard }], guard := some (2, true) }) (v := undef) rfl (by kernel_rfl) (by kernel_rfl) (by kernel_rfl) (fun _ _ _ h => h) (Or.inr ⟨by rfl, rfl⟩) (by exact hHeld) ?_
              try simp only [Act.put, List.setIfInBounds_toArray, List.set_cons_zero, List.set_cons_succ]
              refine wpAnyH_take (i := 10) (oi := { dst := some 33, op := Op.binOp BinOp.geq 3 (Operand.tmp 30) (Operand.tmp 32) 3, type := 4, pos := "ref.go:120", after := #[{ on := 7, ground := Ground.data }, { on := 9, ground := Ground.data }, { on := 2, ground := Ground.guard }], guard := some (2, true) }) (v := undef) rfl (by kernel_rfl) (by kernel_rfl) (by kernel_rfl) (fun _ _ _ h => h) (Or.inr ⟨by rfl, rfl⟩) (by exact hHeld) ?_
              try simp only [Act.put, List.setIfInBounds_toArray, List.set_cons_zero, List.set_cons_succ]
              refine wpAnyH_take (i := 11) (oi := { dst := some 34, op := Op.pick (Operand.tmp 25) (Operand.tmp 33) (Operand.const (Value.bool false)), type := 4, pos := "ref.go:120", after := #[{ on := 2, ground := Ground.data }, { on := 10, ground := Ground.data }], guard := none }) (v := ?v11r13) rfl (by kernel_rfl) (by kernel_rfl) (by kernel_rfl) (fun _ _ _ h => h) (Or.inl ⟨by rfl, ?hy11r13⟩) (by exact hHeld) ?_
              case hy11r13 => (intro w hSw; (try dsimp only at hSw); go_simp; try (with_reducible rfl))
              try simp only [Act.put, List.setIfInBounds_toArray, List.set_cons_zero, List.set_cons_succ]
              refine wpAnyH_done (by kernel_rfl) ?_ _
              clear S0 f0 f1 f2 k0 k1 k2
              have HOd := hide (And.intro ((unhide HO).1.bw (Below.refl _ _).drew) ((unhide HO).2.drew))
              generalize World.drew wr = wd at HOd ⊢
              obtain ⟨f0, f1, f2⟩ := unhide HP wd (unhide HOd).2
              have k0 : World.cell? wd ⟨w.heap.size, 0, none⟩ = some (.int .i64 cu) := (unhide HK wd (unhide HOd).2).1
              have k1 : World.cell? wd ⟨w.heap.size, 1, none⟩ = some (.int .i64 ce) := (unhide HK wd (unhide HOd).2).2.1
              have k2 : World.cell? wd ⟨w.heap.size, 2, none⟩ = some (.int .i64 cp) := (unhide HK wd (unhide HOd).2).2.2
              have S0 : wd.cell? ⟨gb, o + i * 3, none⟩ = some (.int .i64 us) ∧ wd.cell? ⟨w.heap.size, 0, none⟩ = some (.int .i64 cu) := ⟨f0, k0⟩
              go_upto_region 11 with fail
              refine wp_region_held_drew (S := fun w' : World => w'.cell? ⟨gb, o + i * 3, none⟩ = some (.int .i64 us) ∧ w'.cell? ⟨w.heap.size, 0, none⟩ = some (.int .i64 cu)) (by kernel_rfl) S0 (fun hHeld => ?_)
              refine wpAnyH_take (i := 0) (oi := { dst := some 39, op := Op.move (Operand.tmp 0), type := 56, pos := "ref.go:124", after := #[], guard := none }) (v := ?v0r14) rfl (by kernel_rfl) (by kernel_rfl) (by kernel_rfl) (fun _ _ _ h => h) (Or.inl ⟨by rfl, ?hy0r14⟩) (by exact hHeld) ?_
              case hy0r14 => (intro w hSw; (try dsimp only at hSw); go_simp; try (with_reducible rfl))
              try simp only [Act.put, List.setIfInBounds_toArray, List.set_cons_zero, List.set_cons_succ]
              refine wpAnyH_take (i := 1) (oi := { dst := some 40, op := Op.move (Operand.tmp 8), type := 3, pos := "ref.go:124", after := #[], guard := none }) (v := ?v1r14) rfl (by kernel_rfl) (by kernel_rfl) (by kernel_rfl) (fun _ _ _ h => h) (Or.inl ⟨by rfl, ?hy1r14⟩) (by exact hHeld) ?_
              case hy1r14 => (intro w hSw; (try dsimp only at hSw); go_simp; try (with_reducible rfl))
              try simp only [Act.put, List.setIfInBounds_toArray, List.set_cons_zero, List.set_cons_succ]
              refine wpAnyH_take (i := 2) (oi := { dst := some 41, op := Op.indexAddr 56 (Operand.tmp 39) (Operand.tmp 40), type := 0, pos := "ref.go:124", after := #[{ on := 0, ground := Ground.data }, { on := 1, ground := Ground.data }], guard := none }) (v := ?v2r14) rfl (by kernel_rfl) (by kernel_rfl) (by kernel_rfl) (fun _ _ _ h => h) (Or.inl ⟨by rfl, ?hy2r14⟩) (by exact hHeld) ?_
              case hy2r14 => (intro w hSw; (try dsimp only at hSw); go_simp; try (with_reducible rfl))
              try simp only [Act.put, List.setIfInBounds_toArray, List.set_cons_zero, List.set_cons_succ]
              refine wpAnyH_take (i := 3) (oi := { dst := some 42, op := Op.fieldAddr 44 (Operand.tmp 41) 0, type := 0, pos := "ref.go:124", after := #[{ on := 2, ground := Ground.data }], guard := none }) (v := ?v3r14) rfl (by kernel_rfl) (by kernel_rfl) (by kernel_rfl) (fun _ _ _ h => h) (Or.inl ⟨by rfl, ?hy3r14⟩) (by exact hHeld) ?_
              case hy3r14 => (intro w hSw; (try dsimp only at hSw); go_simp; try (with_reducible rfl))
              try simp only [Act.put, List.setIfInBounds_toArray, List.set_cons_zero, List.set_cons_succ]
              refine wpAnyH_take (i := 4) (oi := { dst := some 43, op := Op.load 3 (Operand.tmp 42), type := 3, pos := "ref.go:124", after := #[{ on := 3, ground := Ground.data }], guard := none }) (v := ?v4r14) rfl (by kernel_rfl) (by kernel_rfl) (by kernel_rfl) (fun _ _ _ h => h) (Or.inl ⟨by rfl, ?hy4r14⟩) (by exact hHeld) ?_
              case hy4r14 => (intro w hSw; (try dsimp only at hSw); go_simp; try (with_reducible rfl))
              try simp only [Act.put, List.setIfInBounds_toArray, List.set_cons_zero, List.set_cons_succ]
              refine wpAnyH_take (i := 5) (oi := { dst := some 44, op := Op.fieldAddr 44 (Operand.tmp 3) 0, type := 0, pos := "ref.go:124", after := #[], guard := none }) (v := ?v5r14) rfl (by kernel_rfl) (by kernel_rfl) (by kernel_rfl) (fun _ _ _ h => h) (Or.inl ⟨by rfl, ?hy5r14⟩) (by exact hHeld) ?_
              case hy5r14 => (intro w hSw; (try dsimp only at hSw); go_simp; try (with_reducible rfl))
              try simp only [Act.put, List.setIfInBounds_toArray, List.set_cons_zero, List.set_cons_succ]
              refine wpAnyH_take (i := 6) (oi := { dst := some 45, op := Op.load 3 (Operand.tmp 44), type := 3, pos := "ref.go:124", after := #[{ on := 5, ground := Ground.data }], guard := none }) (v := ?v6r14) rfl (by kernel_rfl) (by kernel_rfl) (by kernel_rfl) (fun _ _ _ h => h) (Or.inl ⟨by rfl, ?hy6r14⟩) (by exact hHeld) ?_
              case hy6r14 => (intro w hSw; (try dsimp only at hSw); go_simp; try (with_reducible rfl))
              try simp only [Act.put, List.setIfInBounds_toArray, List.set_cons_zero, List.set_cons_succ]
              refine wpAnyH_take (i := 7) (oi := { dst := some 46, op := Op.binOp BinOp.neq 3 (Operand.tmp 43) (Operand.tmp 45) 3, type := 4, pos := "ref.go:124", after := #[{ on := 4, ground := Ground.data }, { on := 6, ground := Ground.data }], guard := none }) (v := ?v7r14) rfl (by kernel_rfl) (by kernel_rfl) (by kernel_rfl) (fun _ _ _ h => h) (Or.inl ⟨by rfl, ?hy7r14⟩) (by exact hHeld) ?_
              case hy7r14 => (intro w hSw; (try dsimp only at hSw); go_simp; try (with_reducible rfl))
              try simp only [Act.put, List.setIfInBounds_toArray, List.set_cons_zero, List.set_cons_succ]
              refine wpAnyH_done (by kernel_rfl) ?_ _
              clear S0 f0 f1 f2 k0 k1 k2
              have HOz := hide (And.intro ((unhide HOd).1.bw (Below.refl _ _).drew) ((unhide HOd).2.drew))
              generalize World.drew wd = wz at HOz ⊢
              have HX := hide (unhide HSt L true (by exact dstep_u hne))
              go_wp2_with fail
              go_roundw
              case rel => exact ⟨i + 1, L, _, true, _, _, by go_num, by omega, rfl, rfl, HX, HOz⟩
              case measure => simp only [intOf]; omega
            · have n1 : (us != cu) = true := by simp [hne]
              have n2 : decide (us = cu) = false := decide_eq_false hne
              have n3 : (us == cu) = false := by simp [hne]
              have S0 : wr.cell? ⟨gb, o + i * 3, none⟩ = some (.int .i64 us) ∧ wr.cell? ⟨w.heap.size, 0, none⟩ = some (.int .i64 cu) := ⟨f0, k0⟩
              go_upto_region 8 with fail
              refine wp_region_held_drew (S := fun w' : World => w'.cell? ⟨gb, o + i * 3, none⟩ = some (.int .i64 us) ∧ w'.cell? ⟨w.heap.size, 0, none⟩ = some (.int .i64 cu)) (by kernel_rfl) S0 (fun hHeld => ?_)
              refine wpAnyH_take (i := 0) (oi := { dst := some 23, op := Op.move (Operand.tmp 7), type := 4, pos := "ref.go:120", after := #[], guard := none }) (v := ?v0r15) rfl (by kernel_rfl) (by kernel_rfl) (by kernel_rfl) (fun _ _ _ h => h) (Or.inl ⟨by rfl, ?hy0r15⟩) (by exact hHeld) ?_
              case hy0r15 => (intro w hSw; (try dsimp only at hSw); go_simp; try (with_reducible rfl))
              try simp only [Act.put, List.setIfInBounds_toArray, List.set_cons_zero, List.set_cons_succ]
              refine wpAnyH_take (i := 1) (oi := { dst := some 24, op := Op.unOp UnOp.not 4 (Operand.tmp 23), type := 4, pos := "ref.go:120", after := #[{ on := 0, ground := Ground.data }], guard := none }) (v := ?v1r15) rfl (by kernel_rfl) (by kernel_rfl) (by kernel_rfl) (fun _ _ _ h => h) (Or.inl ⟨by rfl, ?hy1r15⟩) (by exact hHeld) ?_
              case hy1r15 => (intro w hSw; (try dsimp only at hSw); go_simp; try (with_reducible rfl))
              try simp only [Act.put, List.setIfInBounds_toArray, List.set_cons_zero, List.set_cons_succ]
              refine wpAnyH_take (i := 2) (oi := { dst := some 25, op := Op.move (Operand.tmp 24), type := 4, pos := "ref.go:120", after := #[{ on := 1, ground := Ground.data }], guard := none }) (v := ?v2r15) rfl (by kernel_rfl) (by kernel_rfl) (by kernel_rfl) (fun _ _ _ h => h) (Or.inl ⟨by rfl, ?hy2r15⟩) (by exact hHeld) ?_
              case hy2r15 => (intro w hSw; (try dsimp only at hSw); go_simp; try (with_reducible rfl))
              try simp only [Act.put, List.setIfInBounds_toArray, List.set_cons_zero, List.set_cons_succ]
              refine wpAnyH_take (i := 3) (oi := { dst := some 26, op := Op.move (Operand.tmp 0), type := 56, pos := "ref.go:120", after := #[{ on := 2, ground := Ground.guard }], guard := some (2, true) }) (v := undef) rfl (by kernel_rfl) (by kernel_rfl) (by kernel_rfl) (fun _ _ _ h => h) (Or.inr ⟨by rfl, rfl⟩) (by exact hHeld) ?_
              try simp only [Act.put, List.setIfInBounds_toArray, List.set_cons_zero, List.set_cons_succ]
              refine wpAnyH_take (i := 4) (oi := { dst := some 27, op := Op.move (Operand.tmp 8), type := 3, pos := "ref.go:120", after := #[{ on := 2, ground := Ground.guard }], guard := some (2, true) }) (v := undef) rfl (by kernel_rfl) (by kernel_rfl) (by kernel_rfl) (fun _ _ _ h => h) (Or.inr ⟨by rfl, rfl⟩) (by exact hHeld) ?_
              try simp only [Act.put, List.setIfInBounds_toArray, List.set_cons_zero, List.set_cons_succ]
              refine wpAnyH_take (i := 5) (oi := { dst := some 28, op := Op.indexAddr 56 (Operand.tmp 26) (Operand.tmp 27), type := 0, pos := "ref.go:120", after := #[{ on := 3, ground := Ground.data }, { on := 4, ground := Ground.data }, { on := 2, ground := Ground.guard }], guard := some (2, true) }) (v := undef) rfl (by kernel_rfl) (by kernel_rfl) (by kernel_rfl) (fun _ _ _ h => h) (Or.inr ⟨by rfl, rfl⟩) (by exact hHeld) ?_
              try simp only [Act.put, List.setIfInBounds_toArray, List.set_cons_zero, List.set_cons_succ]
              refine wpAnyH_take (i := 6) (oi := { dst := some 29, op := Op.fieldAddr 44 (Operand.tmp 28) 0, type := 0, pos := "ref.go:120", after := #[{ on := 5, ground := Ground.data }, { on := 2, ground := Ground.guard }], guard := some (2, true) }) (v := undef) rfl (by kernel_rfl) (by kernel_rfl) (by kernel_rfl) (fun _ _ _ h => h) (Or.inr ⟨by rfl, rfl⟩) (by exact hHeld) ?_
              try simp only [Act.put, List.setIfInBounds_toArray, List.set_cons_zero, List.set_cons_succ]
              refine wpAnyH_take (i := 7) (oi := { dst := some 30, op := Op.load 3 (Operand.tmp 29), type := 3, pos := "ref.go:120", after := #[{ on := 6, ground := Ground.data }, { on := 2, ground := Ground.guard }], guard := some (2, true) }) (v := undef) rfl (by kernel_rfl) (by kernel_rfl) (by kernel_rfl) (fun _ _ _ h => h) (Or.inr ⟨by rfl, rfl⟩) (by exact hHeld) ?_
              try simp only [Act.put, List.setIfInBounds_toArray, List.set_cons_zero, List.set_cons_succ]
              refine wpAnyH_take (i := 8) (oi := { dst := some 31, op := Op.fieldAddr 44 (Operand.tmp 3) 0, type := 0, pos := "ref.go:120", after := #[{ on := 2, ground := Ground.guard }], guard := some (2, true) }) (v := undef) rfl (by kernel_rfl) (by kernel_rfl) (by kernel_rfl) (fun _ _ _ h => h) (Or.inr ⟨by rfl, rfl⟩) (by exact hHeld) ?_
              try simp only [Act.put, List.setIfInBounds_toArray, List.set_cons_zero, List.set_cons_succ]
              refine wpAnyH_take (i := 9) (oi := { dst := some 32, op := Op.load 3 (Operand.tmp 31), type := 3, pos := "ref.go:120", after := #[{ on := 8, ground := Ground.data }, { on := 2, ground := Ground.guard }], guard := some (2, true) }) (v := undef) rfl (by kernel_rfl) (by kernel_rfl) (by kernel_rfl) (fun _ _ _ h => h) (Or.inr ⟨by rfl, rfl⟩) (by exact hHeld) ?_
              try simp only [Act.put, List.setIfInBounds_toArray, List.set_cons_zero, List.set_cons_succ]
              refine wpAnyH_take (i := 10) (oi := { dst := some 33, op := Op.binOp BinOp.geq 3 (Operand.tmp 30) (Operand.tmp 32) 3, type := 4, pos := "ref.go:120", after := #[{ on := 7, ground := Ground.data }, { on := 9, ground := Ground.data }, { on := 2, ground := Ground.guard }], guard := some (2, true) }) (v := undef) rfl (by kernel_rfl) (by kernel_rfl) (by kernel_rfl) (fun _ _ _ h => h) (Or.inr ⟨by rfl, rfl⟩) (by exact hHeld) ?_
              try simp only [Act.put, List.setIfInBounds_toArray, List.set_cons_zero, List.set_cons_succ]
              refine wpAnyH_take (i := 11) (oi := { dst := some 34, op := Op.pick (Operand.tmp 25) (Operand.tmp 33) (Operand.const (Value.bool false)), type := 4, pos := "ref.go:120", after := #[{ on := 2, ground := Ground.data }, { on := 10, ground := Ground.data }], guard := none }) (v := ?v11r15) rfl (by kernel_rfl) (by kernel_rfl) (by kernel_rfl) (fun _ _ _ h => h) (Or.inl ⟨by rfl, ?hy11r15⟩) (by exact hHeld) ?_
              case hy11r15 => (intro w hSw; (try dsimp only at hSw); go_simp; try (with_reducible rfl))
              try simp only [Act.put, List.setIfInBounds_toArray, List.set_cons_zero, List.set_cons_succ]
              refine wpAnyH_done (by kernel_rfl) ?_ _
              clear S0 f0 f1 f2 k0 k1 k2
              have HOd := hide (And.intro ((unhide HO).1.bw (Below.refl _ _).drew) ((unhide HO).2.drew))
              generalize World.drew wr = wd at HOd ⊢
              obtain ⟨f0, f1, f2⟩ := unhide HP wd (unhide HOd).2
              have k0 : World.cell? wd ⟨w.heap.size, 0, none⟩ = some (.int .i64 cu) := (unhide HK wd (unhide HOd).2).1
              have k1 : World.cell? wd ⟨w.heap.size, 1, none⟩ = some (.int .i64 ce) := (unhide HK wd (unhide HOd).2).2.1
              have k2 : World.cell? wd ⟨w.heap.size, 2, none⟩ = some (.int .i64 cp) := (unhide HK wd (unhide HOd).2).2.2
              have S0 : wd.cell? ⟨gb, o + i * 3, none⟩ = some (.int .i64 us) ∧ wd.cell? ⟨w.heap.size, 0, none⟩ = some (.int .i64 cu) := ⟨f0, k0⟩
              go_upto_region 11 with fail
              refine wp_region_held_drew (S := fun w' : World => w'.cell? ⟨gb, o + i * 3, none⟩ = some (.int .i64 us) ∧ w'.cell? ⟨w.heap.size, 0, none⟩ = some (.int .i64 cu)) (by kernel_rfl) S0 (fun hHeld => ?_)
              refine wpAnyH_take (i := 0) (oi := { dst := some 39, op := Op.move (Operand.tmp 0), type := 56, pos := "ref.go:124", after := #[], guard := none }) (v := ?v0r16) rfl (by kernel_rfl) (by kernel_rfl) (by kernel_rfl) (fun _ _ _ h => h) (Or.inl ⟨by rfl, ?hy0r16⟩) (by exact hHeld) ?_
              case hy0r16 => (intro w hSw; (try dsimp only at hSw); go_simp; try (with_reducible rfl))
              try simp only [Act.put, List.setIfInBounds_toArray, List.set_cons_zero, List.set_cons_succ]
              refine wpAnyH_take (i := 1) (oi := { dst := some 40, op := Op.move (Operand.tmp 8), type := 3, pos := "ref.go:124", after := #[], guard := none }) (v := ?v1r16) rfl (by kernel_rfl) (by kernel_rfl) (by kernel_rfl) (fun _ _ _ h => h) (Or.inl ⟨by rfl, ?hy1r16⟩) (by exact hHeld) ?_
              case hy1r16 => (intro w hSw; (try dsimp only at hSw); go_simp; try (with_reducible rfl))
              try simp only [Act.put, List.setIfInBounds_toArray, List.set_cons_zero, List.set_cons_succ]
              refine wpAnyH_take (i := 2) (oi := { dst := some 41, op := Op.indexAddr 56 (Operand.tmp 39) (Operand.tmp 40), type := 0, pos := "ref.go:124", after := #[{ on := 0, ground := Ground.data }, { on := 1, ground := Ground.data }], guard := none }) (v := ?v2r16) rfl (by kernel_rfl) (by kernel_rfl) (by kernel_rfl) (fun _ _ _ h => h) (Or.inl ⟨by rfl, ?hy2r16⟩) (by exact hHeld) ?_
              case hy2r16 => (intro w hSw; (try dsimp only at hSw); go_simp; try (with_reducible rfl))
              try simp only [Act.put, List.setIfInBounds_toArray, List.set_cons_zero, List.set_cons_succ]
              refine wpAnyH_take (i := 3) (oi := { dst := some 42, op := Op.fieldAddr 44 (Operand.tmp 41) 0, type := 0, pos := "ref.go:124", after := #[{ on := 2, ground := Ground.data }], guard := none }) (v := ?v3r16) rfl (by kernel_rfl) (by kernel_rfl) (by kernel_rfl) (fun _ _ _ h => h) (Or.inl ⟨by rfl, ?hy3r16⟩) (by exact hHeld) ?_
              case hy3r16 => (intro w hSw; (try dsimp only at hSw); go_simp; try (with_reducible rfl))
              try simp only [Act.put, List.setIfInBounds_toArray, List.set_cons_zero, List.set_cons_succ]
              refine wpAnyH_take (i := 4) (oi := { dst := some 43, op := Op.load 3 (Operand.tmp 42), type := 3, pos := "ref.go:124", after := #[{ on := 3, ground := Ground.data }], guard := none }) (v := ?v4r16) rfl (by kernel_rfl) (by kernel_rfl) (by kernel_rfl) (fun _ _ _ h => h) (Or.inl ⟨by rfl, ?hy4r16⟩) (by exact hHeld) ?_
              case hy4r16 => (intro w hSw; (try dsimp only at hSw); go_simp; try (with_reducible rfl))
              try simp only [Act.put, List.setIfInBounds_toArray, List.set_cons_zero, List.set_cons_succ]
              refine wpAnyH_take (i := 5) (oi := { dst := some 44, op := Op.fieldAddr 44 (Operand.tmp 3) 0, type := 0, pos := "ref.go:124", after := #[], guard := none }) (v := ?v5r16) rfl (by kernel_rfl) (by kernel_rfl) (by kernel_rfl) (fun _ _ _ h => h) (Or.inl ⟨by rfl, ?hy5r16⟩) (by exact hHeld) ?_
              case hy5r16 => (intro w hSw; (try dsimp only at hSw); go_simp; try (with_reducible rfl))
              try simp only [Act.put, List.setIfInBounds_toArray, List.set_cons_zero, List.set_cons_succ]
              refine wpAnyH_take (i := 6) (oi := { dst := some 45, op := Op.load 3 (Operand.tmp 44), type := 3, pos := "ref.go:124", after := #[{ on := 5, ground := Ground.data }], guard := none }) (v := ?v6r16) rfl (by kernel_rfl) (by kernel_rfl) (by kernel_rfl) (fun _ _ _ h => h) (Or.inl ⟨by rfl, ?hy6r16⟩) (by exact hHeld) ?_
              case hy6r16 => (intro w hSw; (try dsimp only at hSw); go_simp; try (with_reducible rfl))
              try simp only [Act.put, List.setIfInBounds_toArray, List.set_cons_zero, List.set_cons_succ]
              refine wpAnyH_take (i := 7) (oi := { dst := some 46, op := Op.binOp BinOp.neq 3 (Operand.tmp 43) (Operand.tmp 45) 3, type := 4, pos := "ref.go:124", after := #[{ on := 4, ground := Ground.data }, { on := 6, ground := Ground.data }], guard := none }) (v := ?v7r16) rfl (by kernel_rfl) (by kernel_rfl) (by kernel_rfl) (fun _ _ _ h => h) (Or.inl ⟨by rfl, ?hy7r16⟩) (by exact hHeld) ?_
              case hy7r16 => (intro w hSw; (try dsimp only at hSw); go_simp; try (with_reducible rfl))
              try simp only [Act.put, List.setIfInBounds_toArray, List.set_cons_zero, List.set_cons_succ]
              refine wpAnyH_done (by kernel_rfl) ?_ _
              clear S0 f0 f1 f2 k0 k1 k2
              have HOz := hide (And.intro ((unhide HOd).1.bw (Below.refl _ _).drew) ((unhide HOd).2.drew))
              generalize World.drew wd = wz at HOz ⊢
              obtain ⟨f0, f1, f2⟩ := unhide HP wz (unhide HOz).2
              go_wp2_with (at_builtin; refine wpList_append_own _ rfl (.tmp 47) (.tmp 52) 56 rfl w0.heap.size 44 j0 (.agg #[.int .i64 0, .int .i64 0, .int .i64 0]) 3 24 Tryz.underlying56 hj hy0 hy1 hyb rfl (by decide) _ _ _ rfl (World.ownsRow.alloc (unhide HOz).1.row _) ⟨wz.heap.size, 0, none⟩ 1 1 [.int .i64 us, .int .i64 ep, .int .i64 pb] rfl rfl (cells_newM wz [.int .i64 us, .int .i64 ep, .int .i64 pb] 44) (card_one _ _ _) ?c3e ?c4e ?c5e ?nxe)
              case c3e => have := unhide HN; unfold maxLen; omega
              case c4e => have := unhide HN; omega
              case c5e => have := (unhide HOz).2.size; simp; omega
              case nxe =>
                intro v6 w6 hown hgrow _
                obtain ⟨L6, hL2⟩ : ∃ z, z = L ++ [(⟨us, ep, pb⟩ : Cd)] := ⟨_, rfl⟩
                have Q := own_snocC (c := ⟨us, ep, pb⟩) (unhide HOz).1 (unhide HOz).2 (by simpa [cdC] using hown) hgrow
                rw [← hL2] at Q
                have HO6 := hide Q
                have HL6 := hide hL2
                have HN6 : Hid (L6.length ≤ 524290) := by have := unhide HN; have e_ : L6.length = L.length + 1 := (by rw [hL2]; simp); unfold Hid; omega
                obtain ⟨ae, ce, e_⟩ := own_slice Q.1.row
                clear Q hown hgrow hL2
                subst e_
                have HX := hide (unhide HSt L6 true (by rw [unhide HL6]; exact dstep_t hne))
                clear f0 f1 f2
                go_wp2_with fail
                go_roundw
                case rel => exact ⟨i + 1, L6, _, true, _, _, by go_num, by omega, rfl, rfl, HX, HO6⟩
                case measure => simp only [intOf]; omega
        · obtain rfl : i = N := by omega
          have hfull : l.take i = l := List.take_of_length_le (by have := (unhide HR).2.2; omega)
          have HG2 : Hid ((L, d) = dgo ⟨cu, ce, cp⟩ l) := by
            have := unhide HG
            rw [hfull] at this
            exact this
          clear hfull HG HP0
          cases d with
          | true =>
            have HF : Hid (RSetX w.heap.size wr (.slice a' L.length c') 0 l ⟨cu, ce, cp⟩ ∧ Below w.heap.size w wr) := by
              refine ⟨Or.inr ⟨rfl, (unhide HOK).1, (unhide HOK).2, xs', ?_⟩, bw_tr (unhide HBL) (unhide HO).2⟩
              have e : dset ⟨cu, ce, cp⟩ l = L := by unfold dset; rw [← unhide HG2]; rfl
              rw [e]
              exact (unhide HO).1.mono (unhide HBL).size
            clear HO HG2 HK
            go_wp2_with fail
            go_ret2
            exact ⟨_, 0, rfl, (unhide HF).1, (unhide HF).2⟩
          | false =>
            have k0 : World.cell? wr ⟨w.heap.size, 0, none⟩ = some (.int .i64 cu) := (unhide HK wr (unhide HO).2).1
            have k1 : World.cell? wr ⟨w.heap.size, 1, none⟩ = some (.int .i64 ce) := (unhide HK wr (unhide HO).2).2.1
            have k2 : World.cell? wr ⟨w.heap.size, 2, none⟩ = some (.int .i64 cp) := (unhide HK wr (unhide HO).2).2.2
            go_wp2_with (at_builtin; refine wpList_append_own _ rfl (.tmp 56) (.tmp 58) 56 rfl w0.heap.size 44 j0 (.agg #[.int .i64 0, .int .i64 0, .int .i64 0]) 3 24 Tryz.underlying56 hj hy0 hy1 hyb rfl (by decide) _ _ _ rfl (World.ownsRow.alloc (unhide HO).1.row _) ⟨wr.heap.size, 0, none⟩ 1 1 [.int .i64 cu, .int .i64 ce, .int .i64 cp] rfl rfl (cells_newM wr [.int .i64 cu, .int .i64 ce, .int .i64 cp] 44) (card_one _ _ _) ?c3z ?c4z ?c5z ?nxz)
            case c3z => have := unhide HN; unfold maxLen; omega
            case c4z => have := unhide HN; omega
            case c5z => have := (unhide HO).2.size; simp; omega
            case nxz =>
              intro v5 w5 hown hgrow _
              obtain ⟨L5, hL2⟩ : ∃ z, z = L ++ [(⟨cu, ce, cp⟩ : Cd)] := ⟨_, rfl⟩
              have Q := own_snocC (c := ⟨cu, ce, cp⟩) (unhide HO).1 (unhide HO).2 (by simpa [cdC] using hown) hgrow
              rw [← hL2] at Q
              have HO5 := hide Q
              have HL5 := hide hL2
              have HN5 : Hid (L5.length ≤ 524289) := by have := unhide HN; have e_ : L5.length = L.length + 1 := (by rw [hL2]; simp); unfold Hid; omega
              obtain ⟨az, cz, e_⟩ := own_slice Q.1.row
              clear Q hown hgrow hL2
              subst e_
              have HF : Hid (RSetX w.heap.size w5 (.slice az L5.length cz) 0 l ⟨cu, ce, cp⟩ ∧ Below w.heap.size w w5) := by
                refine ⟨Or.inr ⟨rfl, (unhide HOK).1, (unhide HOK).2, xs' ++ [()], ?_⟩, bw_tr (unhide HBL) (unhide HO5).2⟩
                have e : dset ⟨cu, ce, cp⟩ l = L5 := by unfold dset; rw [← unhide HG2, unhide HL5]; rfl
                rw [e]
                exact (unhide HO5).1.mono (unhide HBL).size
              clear HO HO5 HG2 HK k0 k1 k2
              go_wp2_with fail
              go_ret2
              exact ⟨_, 0, rfl, (unhide HF).1, (unhide HF).2⟩
end Go.Proofs.YtihniafidgjlcaaGreatDoor.Cd
