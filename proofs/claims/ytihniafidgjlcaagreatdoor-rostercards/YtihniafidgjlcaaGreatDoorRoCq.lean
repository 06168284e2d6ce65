/- The document's fits, may (package phratryref16). mkRoCq.py writes it. -/
import Derived.Test.YtihniafidgjlcaaGreatDoorZ22
import Derived.Deep.RegionHeld3
namespace Go.Proofs.YtihniafidgjlcaaGreatDoor.Cd
open Go.RowKit Go.Maps
set_option maxHeartbeats 2000000 in
theorem rfits_any {w : World} (us ep pb : Int) : Calls Tryz.prog 50 #[.agg #[.int .i64 us, .int .i64 ep, .int .i64 pb]] w fun e w' => e = .returned (.bool (decide (0 ≤ us ∧ us < 64 ∧ 0 ≤ ep ∧ 0 < pb))) ∧ Below w.heap.size w w' := by
  have HB := hide (bwA w (.cells #[.int .i64 us, .int .i64 ep, .int .i64 pb] 44))
  by_cases h1 : 0 ≤ us
  · by_cases h2 : us < 64
    · by_cases h3 : 0 ≤ ep
      · by_cases h4 : 1 ≤ pb
        · have hd : decide (0 ≤ us ∧ us < 64 ∧ 0 ≤ ep ∧ 0 < pb) = true := decide_eq_true ⟨h1, h2, h3, by omega⟩
          rw [hd]
          clear hd
          go_enter Tryz.func50, Tryz.ntmps50
          go_wp2_with fail
          go_ret
          exact ⟨by first | rfl | simp, unhide HB⟩
        · have hd : decide (0 ≤ us ∧ us < 64 ∧ 0 ≤ ep ∧ 0 < pb) = false := decide_eq_false (fun q => by omega)
          rw [hd]
          clear hd
          go_enter Tryz.func50, Tryz.ntmps50
          go_wp2_with fail
          go_ret
          exact ⟨by first | rfl | simp, unhide HB⟩
      · have hd : decide (0 ≤ us ∧ us < 64 ∧ 0 ≤ ep ∧ 0 < pb) = false := decide_eq_false (fun q => by omega)
        rw [hd]
        clear hd
        go_enter Tryz.func50, Tryz.ntmps50
        go_wp2_with fail
        go_ret
        exact ⟨by first | rfl | simp, unhide HB⟩
    · have hd : decide (0 ≤ us ∧ us < 64 ∧ 0 ≤ ep ∧ 0 < pb) = false := decide_eq_false (fun q => by omega)
      rw [hd]
      clear hd
      go_enter Tryz.func50, Tryz.ntmps50
      go_wp2_with fail
      go_ret
      exact ⟨by first | rfl | simp, unhide HB⟩
  · have hd : decide (0 ≤ us ∧ us < 64 ∧ 0 ≤ ep ∧ 0 < pb) = false := decide_eq_false (fun q => by omega)
    rw [hd]
    clear hd
    go_enter Tryz.func50, Tryz.ntmps50
    go_wp2_with fail
    go_ret
    exact ⟨by first | rfl | simp, unhide HB⟩
set_option maxRecDepth 100000 in
set_option maxHeartbeats 16000000 in
theorem rmay_any {w : World} {v : Value} {l : List Cd} {xs : List Unit} (h : RdL kCd w v l xs) (hl : l.length ≤ 1073741824) :
    Calls Tryz.prog 49 #[v] w fun e w' => e = .returned (.bool (mayX l)) ∧ Below w.heap.size w w' := by
  obtain ⟨a, cap, rfl⟩ := rdl_slice h
  obtain ⟨N, hN⟩ : ∃ N, N = l.length := ⟨_, rfl⟩
  rw [← hN] at h hl ⊢
  have hNI : (N : Int) ≤ 1073741824 := by omega
  obtain ⟨r, hr⟩ : ∃ r, r = mayX l := ⟨_, rfl⟩
  rw [← hr]
  have HH := hide (And.intro h (And.intro hN hr))
  have HE : Hid ((∀ j, j < N → okX l j) → r = true) := fun q => by
    rw [hr]
    refine mayX_iff.2 (fun j => ?_)
    rcases Nat.lt_or_ge j N with c | c
    · exact q j c
    · intro b hb; rw [List.getElem?_eq_none (by omega)] at hb; cases hb
  have HB : Hid (∀ j, j < N → ¬ okX l j → r = false) := fun j hj q => by rw [hr]; exact mayX_not q
  clear h hN hl hr
  go_enter Tryz.func49, Tryz.ntmps49
  go_wp2_with fail
  go_loopw [3] (fun iv wr => ∃ i : Nat, i ≤ N ∧ iv = .int .i64 (i : Int) ∧ Hid (Below w.heap.size w wr ∧ ∀ j, j < i → okX l j)) (fun iv _ => (N - intOf iv).toNat)
  case atStart => exact ⟨0, Nat.zero_le _, rfl, Below.refl _ _, fun j hj => absurd hj (by omega)⟩
  case round =>
    obtain ⟨i, hi, rfl, HR⟩ := hrel
    by_cases hlt : i < N
    · have hiI : (i : Int) < (N : Int) := by omega
      have h0 : (0 : Int) ≤ (i : Int) := by omega
      obtain ⟨h, hN, hr⟩ := unhide HH
      obtain ⟨p, hp⟩ : ∃ p, l[i]? = some p := ⟨_, List.getElem?_eq_getElem (by omega)⟩
      obtain ⟨gb, o, x, rfl, hx, hR, hc⟩ := h.get hp
      obtain ⟨us, hus⟩ : ∃ z, z = p.us := ⟨_, rfl⟩
      obtain ⟨ep, hep⟩ : ∃ z, z = p.ep := ⟨_, rfl⟩
      obtain ⟨pb, hpb⟩ : ∃ z, z = p.pb := ⟨_, rfl⟩
      have d0 : w.cell? ⟨gb, o + i * 3, none⟩ = some (.int .i64 us) := by rw [hus]; exact hc 0 _ rfl
      have d1 : w.cell? ⟨gb, o + i * 3 + 1, none⟩ = some (.int .i64 ep) := by rw [hep]; exact hc 1 _ rfl
      have d2 : w.cell? ⟨gb, o + i * 3 + 2, none⟩ = some (.int .i64 pb) := by rw [hpb]; exact hc 2 _ rfl
      have f0 : wr.cell? ⟨gb, o + i * 3, none⟩ = some (.int .i64 us) := by rw [(unhide HR).1.cell (lt_of_cell d0)]; exact d0
      have f1 : wr.cell? ⟨gb, o + i * 3 + 1, none⟩ = some (.int .i64 ep) := by rw [(unhide HR).1.cell (lt_of_cell d1)]; exact d1
      have f2 : wr.cell? ⟨gb, o + i * 3 + 2, none⟩ = some (.int .i64 pb) := by rw [(unhide HR).1.cell (lt_of_cell d2)]; exact d2
      have BB := hide (unhide HR).1
      have HOK : Hid ((0 ≤ us ∧ us < 64 ∧ 0 ≤ ep ∧ 0 < pb) → (∀ q i'', i = i'' + 1 → l[i'']? = some q → q.us < p.us) → ∀ j, j < i + 1 → okX l j) := fun q1 q2 j hj => by
        rcases Nat.lt_or_ge j i with d | d
        · exact (unhide HR).2 j d
        · obtain rfl : j = i := by omega
          intro p' hp'
          rw [hp] at hp'; cases hp'
          rw [← hus, ← hep, ← hpb]
          exact ⟨q1, by rw [← hus] at q2; exact q2⟩
      clear hR hc hx
      by_cases hi0 : i = 0
      · have i1 : decide ((0 : Int) < (i : Int)) = false := decide_eq_false (by omega)
        have i2 : ¬ (0 : Int) < (i : Int) := by omega
        have i3 : decide (0 < i) = false := decide_eq_false (by omega)
        by_cases hdv : 0 ≤ us ∧ us < 64 ∧ 0 ≤ ep ∧ 0 < pb
        · have hdb : decide (0 ≤ us ∧ us < 64 ∧ 0 ≤ ep ∧ 0 < pb) = true := decide_eq_true hdv
          have HNX : Hid (∀ j, j < i + 1 → okX l j) := unhide HOK hdv (fun q' i'' e => absurd e (by omega))
          clear h hN hr hp d0 d1 d2 hus hep hpb HOK HR HB hi0 hdv
          have S0 : wr.cell? ⟨gb, o + i * 3, none⟩ = some (.int .i64 us) ∧ wr.cell? ⟨gb, o + i * 3 + 1, none⟩ = some (.int .i64 ep) ∧ wr.cell? ⟨gb, o + i * 3 + 2, none⟩ = some (.int .i64 pb) := ⟨f0, f1, f2⟩
          have S00 : wr.drew.cell? ⟨gb, o + i * 3, none⟩ = some (.int .i64 us) ∧ wr.drew.cell? ⟨gb, o + i * 3 + 1, none⟩ = some (.int .i64 ep) ∧ wr.drew.cell? ⟨gb, o + i * 3 + 2, none⟩ = some (.int .i64 pb) := S0
          have K0 : Hid (Calls Tryz.prog 50 #[.agg #[.int .i64 us, .int .i64 ep, .int .i64 pb]] wr.drew fun e w' => e = .returned (.bool true) ∧ Hid (Below w.heap.size w w') ∧ w'.cell? ⟨gb, o + i * 3, none⟩ = some (.int .i64 us) ∧ w'.cell? ⟨gb, o + i * 3 + 1, none⟩ = some (.int .i64 ep) ∧ w'.cell? ⟨gb, o + i * 3 + 2, none⟩ = some (.int .i64 pb)) := by
            refine Calls.mono (rfits_any (w := wr.drew) us ep pb) ?_
            rintro e w' ⟨h1, h2'⟩
            have h2 : Below wr.heap.size wr w' := bw_tr (Below.refl _ _).drew h2'
            exact ⟨by rw [h1, hdb], bw_tr (unhide BB) h2, ⟨by rw [h2.cell (lt_of_cell f0)]; exact f0, by rw [h2.cell (lt_of_cell f1)]; exact f1, by rw [h2.cell (lt_of_cell f2)]; exact f2⟩⟩
          clear f0 f1 f2 hdb BB
          go_upto_region 4 with fail
          refine wp_region_held_drew (S := fun w' : World => w'.cell? ⟨gb, o + i * 3, none⟩ = some (.int .i64 us) ∧ w'.cell? ⟨gb, o + i * 3 + 1, none⟩ = some (.int .i64 ep) ∧ w'.cell? ⟨gb, o + i * 3 + 2, none⟩ = some (.int .i64 pb)) (by kernel_rfl) S0 (fun hHeld => ?_)
          refine wpAnyH_take (i := 0) (oi := { dst := some 10, op := Op.move (Operand.tmp 0), type := 56, pos := "ref.go:89", after := #[], guard := none }) (v := ?v0r3) rfl (by kernel_rfl) (by kernel_rfl) (by kernel_rfl) (fun _ _ _ h => h) (Or.inl ⟨by rfl, ?hy0r3⟩) (by exact hHeld) ?_
          case hy0r3 => (intro w hSw; (try dsimp only at hSw); go_simp; try (with_reducible rfl))
          try simp only [Act.put, List.setIfInBounds_toArray, List.set_cons_zero, List.set_cons_succ]
          refine wpAnyH_take (i := 1) (oi := { dst := some 11, op := Op.move (Operand.tmp 3), type := 3, pos := "ref.go:89", after := #[], guard := none }) (v := ?v1r3) rfl (by kernel_rfl) (by kernel_rfl) (by kernel_rfl) (fun _ _ _ h => h) (Or.inl ⟨by rfl, ?hy1r3⟩) (by exact hHeld) ?_
          case hy1r3 => (intro w hSw; (try dsimp only at hSw); go_simp; try (with_reducible rfl))
          try simp only [Act.put, List.setIfInBounds_toArray, List.set_cons_zero, List.set_cons_succ]
          refine wpAnyH_take (i := 2) (oi := { dst := some 12, op := Op.indexAddr 56 (Operand.tmp 10) (Operand.tmp 11), type := 0, pos := "ref.go:89", after := #[{ on := 0, ground := Ground.data }, { on := 1, ground := Ground.data }], guard := none }) (v := ?v2r3) rfl (by kernel_rfl) (by kernel_rfl) (by kernel_rfl) (fun _ _ _ h => h) (Or.inl ⟨by rfl, ?hy2r3⟩) (by exact hHeld) ?_
          case hy2r3 => (intro w hSw; (try dsimp only at hSw); go_simp; try (with_reducible rfl))
          try simp only [Act.put, List.setIfInBounds_toArray, List.set_cons_zero, List.set_cons_succ]
          refine wpAnyH_take (i := 3) (oi := { dst := some 13, op := Op.load 44 (Operand.tmp 12), type := 44, pos := "ref.go:89", after := #[{ on := 2, ground := Ground.data }], guard := none }) (v := ?v3r3) rfl (by kernel_rfl) (by kernel_rfl) (by kernel_rfl) (fun _ _ _ h => h) (Or.inl ⟨by rfl, ?hy3r3⟩) (by exact hHeld) ?_
          case hy3r3 => (intro w hSw; (try dsimp only at hSw); go_simp; try (with_reducible rfl))
          try simp only [Act.put, List.setIfInBounds_toArray, List.set_cons_zero, List.set_cons_succ]
          refine wpAnyH_ready (rs := [4]) (by kernel_rfl) (by simp) ?_
          refine AllReadyH.cons (o := { dst := some 14, op := Op.call { callee := Callee.value (Operand.func 50), args := #[Operand.tmp 13], argTypes := #[44] }, type := 4, pos := "ref.go:89", after := #[{ on := 3, ground := Ground.data }], guard := none }) rfl (fun K hK => ?_) AllReadyH.nil
          go_simp
          go_at_call 50
          refine (unhide K0).mono ?_
          rintro e z1 ⟨rfl, B1, S1⟩
          go_wp2_with fail
          refine hK.out _ _ S1 (fun _ => ?_)
          clear hK K
          try simp only [Act.put, List.setIfInBounds_toArray, List.set_cons_zero, List.set_cons_succ]
          refine wpAnyH_take (i := 5) (oi := { dst := some 15, op := Op.unOp UnOp.not 4 (Operand.tmp 14), type := 4, pos := "ref.go:89", after := #[{ on := 4, ground := Ground.data }], guard := none }) (v := ?v5r3) rfl (by kernel_rfl) (by kernel_rfl) (by kernel_rfl) (fun _ _ _ h => h) (Or.inl ⟨by rfl, ?hy5r3⟩) (by exact S1) ?_
          case hy5r3 => (intro w hSw; (try dsimp only at hSw); go_simp; try (with_reducible rfl))
          try simp only [Act.put, List.setIfInBounds_toArray, List.set_cons_zero, List.set_cons_succ]
          refine wpAnyH_take (i := 6) (oi := { dst := some 16, op := Op.move (Operand.tmp 15), type := 4, pos := "ref.go:89", after := #[{ on := 5, ground := Ground.data }, { on := 4, ground := Ground.chain }], guard := none }) (v := ?v6r3) rfl (by kernel_rfl) (by kernel_rfl) (by kernel_rfl) (fun _ _ _ h => h) (Or.inl ⟨by rfl, ?hy6r3⟩) (by exact S1) ?_
          case hy6r3 => (intro w hSw; (try dsimp only at hSw); go_simp; try (with_reducible rfl))
          try simp only [Act.put, List.setIfInBounds_toArray, List.set_cons_zero, List.set_cons_succ]
          refine wpAnyH_take (i := 7) (oi := { dst := some 17, op := Op.move (Operand.tmp 3), type := 3, pos := "ref.go:89", after := #[{ on := 6, ground := Ground.guard }], guard := some (6, false) }) (v := ?v7r3) rfl (by kernel_rfl) (by kernel_rfl) (by kernel_rfl) (fun _ _ _ h => h) (Or.inl ⟨by rfl, ?hy7r3⟩) (by exact S1) ?_
          case hy7r3 => (intro w hSw; (try dsimp only at hSw); go_simp; try (with_reducible rfl))
          try simp only [Act.put, List.setIfInBounds_toArray, List.set_cons_zero, List.set_cons_succ]
          refine wpAnyH_take (i := 8) (oi := { dst := some 18, op := Op.binOp BinOp.gtr 3 (Operand.tmp 17) (Operand.const (Value.int IntKind.i64 0)) 3, type := 4, pos := "ref.go:89", after := #[{ on := 7, ground := Ground.data }, { on := 6, ground := Ground.guard }], guard := some (6, false) }) (v := ?v8r3) rfl (by kernel_rfl) (by kernel_rfl) (by kernel_rfl) (fun _ _ _ h => h) (Or.inl ⟨by rfl, ?hy8r3⟩) (by exact S1) ?_
          case hy8r3 => (intro w hSw; (try dsimp only at hSw); go_simp; try (with_reducible rfl))
          try simp only [Act.put, List.setIfInBounds_toArray, List.set_cons_zero, List.set_cons_succ]
          refine wpAnyH_take (i := 9) (oi := { dst := some 19, op := Op.move (Operand.tmp 18), type := 4, pos := "ref.go:89", after := #[{ on := 8, ground := Ground.data }, { on := 6, ground := Ground.chain }, { on := 6, ground := Ground.guard }], guard := some (6, false) }) (v := ?v9r3) rfl (by kernel_rfl) (by kernel_rfl) (by kernel_rfl) (fun _ _ _ h => h) (Or.inl ⟨by rfl, ?hy9r3⟩) (by exact S1) ?_
          case hy9r3 => (intro w hSw; (try dsimp only at hSw); go_simp; try (with_reducible rfl))
          try simp only [Act.put, List.setIfInBounds_toArray, List.set_cons_zero, List.set_cons_succ]
          refine wpAnyH_take (i := 10) (oi := { dst := some 20, op := Op.move (Operand.tmp 0), type := 56, pos := "ref.go:89", after := #[{ on := 9, ground := Ground.guard }], guard := some (9, true) }) (v := undef) rfl (by kernel_rfl) (by kernel_rfl) (by kernel_rfl) (fun _ _ _ h => h) (Or.inr ⟨by rfl, rfl⟩) (by exact S1) ?_
          try simp only [Act.put, List.setIfInBounds_toArray, List.set_cons_zero, List.set_cons_succ]
          refine wpAnyH_take (i := 11) (oi := { dst := some 21, op := Op.move (Operand.tmp 3), type := 3, pos := "ref.go:89", after := #[{ on := 9, ground := Ground.guard }], guard := some (9, true) }) (v := undef) rfl (by kernel_rfl) (by kernel_rfl) (by kernel_rfl) (fun _ _ _ h => h) (Or.inr ⟨by rfl, rfl⟩) (by exact S1) ?_
          try simp only [Act.put, List.setIfInBounds_toArray, List.set_cons_zero, List.set_cons_succ]
          refine wpAnyH_take (i := 12) (oi := { dst := some 22, op := Op.indexAddr 56 (Operand.tmp 20) (Operand.tmp 21), type := 0, pos := "ref.go:89", after := #[{ on := 10, ground := Ground.data }, { on := 11, ground := Ground.data }, { on := 9, ground := Ground.guard }], guard := some (9, true) }) (v := undef) rfl (by kernel_rfl) (by kernel_rfl) (by kernel_rfl) (fun _ _ _ h => h) (Or.inr ⟨by rfl, rfl⟩) (by exact S1) ?_
          try simp only [Act.put, List.setIfInBounds_toArray, List.set_cons_zero, List.set_cons_succ]
          refine wpAnyH_take (i := 13) (oi := { dst := some 23, op := Op.fieldAddr 44 (Operand.tmp 22) 0, type := 0, pos := "ref.go:89", after := #[{ on := 12, ground := Ground.data }, { on := 9, ground := Ground.guard }], guard := some (9, true) }) (v := undef) rfl (by kernel_rfl) (by kernel_rfl) (by kernel_rfl) (fun _ _ _ h => h) (Or.inr ⟨by rfl, rfl⟩) (by exact S1) ?_
          try simp only [Act.put, List.setIfInBounds_toArray, List.set_cons_zero, List.set_cons_succ]
          refine wpAnyH_take (i := 14) (oi := { dst := some 24, op := Op.load 3 (Operand.tmp 23), type := 3, pos := "ref.go:89", after := #[{ on := 13, ground := Ground.data }, { on := 9, ground := Ground.guard }], guard := some (9, true) }) (v := undef) rfl (by kernel_rfl) (by kernel_rfl) (by kernel_rfl) (fun _ _ _ h => h) (Or.inr ⟨by rfl, rfl⟩) (by exact S1) ?_
          try simp only [Act.put, List.setIfInBounds_toArray, List.set_cons_zero, List.set_cons_succ]
          refine wpAnyH_take (i := 15) (oi := { dst := some 25, op := Op.move (Operand.tmp 0), type := 56, pos := "ref.go:89", after := #[{ on := 9, ground := Ground.guard }], guard := some (9, true) }) (v := undef) rfl (by kernel_rfl) (by kernel_rfl) (by kernel_rfl) (fun _ _ _ h => h) (Or.inr ⟨by rfl, rfl⟩) (by exact S1) ?_
          try simp only [Act.put, List.setIfInBounds_toArray, List.set_cons_zero, List.set_cons_succ]
          refine wpAnyH_take (i := 16) (oi := { dst := some 26, op := Op.move (Operand.tmp 3), type := 3, pos := "ref.go:89", after := #[{ on := 9, ground := Ground.guard }], guard := some (9, true) }) (v := undef) rfl (by kernel_rfl) (by kernel_rfl) (by kernel_rfl) (fun _ _ _ h => h) (Or.inr ⟨by rfl, rfl⟩) (by exact S1) ?_
          try simp only [Act.put, List.setIfInBounds_toArray, List.set_cons_zero, List.set_cons_succ]
          refine wpAnyH_take (i := 17) (oi := { dst := some 27, op := Op.binOp BinOp.sub 3 (Operand.tmp 26) (Operand.const (Value.int IntKind.i64 1)) 3, type := 3, pos := "ref.go:89", after := #[{ on := 16, ground := Ground.data }, { on := 9, ground := Ground.guard }], guard := some (9, true) }) (v := undef) rfl (by kernel_rfl) (by kernel_rfl) (by kernel_rfl) (fun _ _ _ h => h) (Or.inr ⟨by rfl, rfl⟩) (by exact S1) ?_
          try simp only [Act.put, List.setIfInBounds_toArray, List.set_cons_zero, List.set_cons_succ]
          refine wpAnyH_take (i := 18) (oi := { dst := some 28, op := Op.indexAddr 56 (Operand.tmp 25) (Operand.tmp 27), type := 0, pos := "ref.go:89", after := #[{ on := 15, ground := Ground.data }, { on := 17, ground := Ground.data }, { on := 9, ground := Ground.guard }], guard := some (9, true) }) (v := undef) rfl (by kernel_rfl) (by kernel_rfl) (by kernel_rfl) (fun _ _ _ h => h) (Or.inr ⟨by rfl, rfl⟩) (by exact S1) ?_
          try simp only [Act.put, List.setIfInBounds_toArray, List.set_cons_zero, List.set_cons_succ]
          refine wpAnyH_take (i := 19) (oi := { dst := some 29, op := Op.fieldAddr 44 (Operand.tmp 28) 0, type := 0, pos := "ref.go:89", after := #[{ on := 18, ground := Ground.data }, { on := 9, ground := Ground.guard }], guard := some (9, true) }) (v := undef) rfl (by kernel_rfl) (by kernel_rfl) (by kernel_rfl) (fun _ _ _ h => h) (Or.inr ⟨by rfl, rfl⟩) (by exact S1) ?_
          try simp only [Act.put, List.setIfInBounds_toArray, List.set_cons_zero, List.set_cons_succ]
          refine wpAnyH_take (i := 20) (oi := { dst := some 30, op := Op.load 3 (Operand.tmp 29), type := 3, pos := "ref.go:89", after := #[{ on := 19, ground := Ground.data }, { on := 9, ground := Ground.guard }], guard := some (9, true) }) (v := undef) rfl (by kernel_rfl) (by kernel_rfl) (by kernel_rfl) (fun _ _ _ h => h) (Or.inr ⟨by rfl, rfl⟩) (by exact S1) ?_
          try simp only [Act.put, List.setIfInBounds_toArray, List.set_cons_zero, List.set_cons_succ]
          refine wpAnyH_take (i := 21) (oi := { dst := some 31, op := Op.binOp BinOp.leq 3 (Operand.tmp 24) (Operand.tmp 30) 3, type := 4, pos := "ref.go:89", after := #[{ on := 14, ground := Ground.data }, { on := 20, ground := Ground.data }, { on := 9, ground := Ground.guard }], guard := some (9, true) }) (v := undef) rfl (by kernel_rfl) (by kernel_rfl) (by kernel_rfl) (fun _ _ _ h => h) (Or.inr ⟨by rfl, rfl⟩) (by exact S1) ?_
          try simp only [Act.put, List.setIfInBounds_toArray, List.set_cons_zero, List.set_cons_succ]
          refine wpAnyH_take (i := 22) (oi := { dst := some 32, op := Op.pick (Operand.tmp 19) (Operand.tmp 31) (Operand.const (Value.bool false)), type := 4, pos := "ref.go:89", after := #[{ on := 9, ground := Ground.data }, { on := 21, ground := Ground.data }, { on := 6, ground := Ground.guard }], guard := some (6, false) }) (v := ?v22r3) rfl (by kernel_rfl) (by kernel_rfl) (by kernel_rfl) (fun _ _ _ h => h) (Or.inl ⟨by rfl, ?hy22r3⟩) (by exact S1) ?_
          case hy22r3 => (intro w hSw; (try dsimp only at hSw); go_simp; try (with_reducible rfl))
          try simp only [Act.put, List.setIfInBounds_toArray, List.set_cons_zero, List.set_cons_succ]
          refine wpAnyH_take (i := 23) (oi := { dst := some 33, op := Op.pick (Operand.tmp 16) (Operand.const (Value.bool true)) (Operand.tmp 32), type := 4, pos := "ref.go:89", after := #[{ on := 6, ground := Ground.data }, { on := 22, ground := Ground.data }], guard := none }) (v := ?v23r3) rfl (by kernel_rfl) (by kernel_rfl) (by kernel_rfl) (fun _ _ _ h => h) (Or.inl ⟨by rfl, ?hy23r3⟩) (by exact S1) ?_
          case hy23r3 => (intro w hSw; (try dsimp only at hSw); go_simp; try (with_reducible rfl))
          try simp only [Act.put, List.setIfInBounds_toArray, List.set_cons_zero, List.set_cons_succ]
          refine wpAnyH_done (by kernel_rfl) ?_ _
          clear S0 S00 S1 K0
          go_wp2_with fail
          go_roundw
          case rel => exact ⟨i + 1, by omega, by go_num, unhide B1, unhide HNX⟩
          case measure => simp only [intOf]; omega
        · have hdb : decide (0 ≤ us ∧ us < 64 ∧ 0 ≤ ep ∧ 0 < pb) = false := decide_eq_false hdv
          have HR1 : Hid (r = false) := unhide HB i hlt (fun ho => by
            have := (ho p hp).1
            rw [← hus, ← hep, ← hpb] at this
            exact hdv this)
          clear h hN hr hp d0 d1 d2 hus hep hpb HOK HR HB hi0 hdv
          have S0 : wr.cell? ⟨gb, o + i * 3, none⟩ = some (.int .i64 us) ∧ wr.cell? ⟨gb, o + i * 3 + 1, none⟩ = some (.int .i64 ep) ∧ wr.cell? ⟨gb, o + i * 3 + 2, none⟩ = some (.int .i64 pb) := ⟨f0, f1, f2⟩
          have S00 : wr.drew.cell? ⟨gb, o + i * 3, none⟩ = some (.int .i64 us) ∧ wr.drew.cell? ⟨gb, o + i * 3 + 1, none⟩ = some (.int .i64 ep) ∧ wr.drew.cell? ⟨gb, o + i * 3 + 2, none⟩ = some (.int .i64 pb) := S0
          have K0 : Hid (Calls Tryz.prog 50 #[.agg #[.int .i64 us, .int .i64 ep, .int .i64 pb]] wr.drew fun e w' => e = .returned (.bool false) ∧ Hid (Below w.heap.size w w') ∧ w'.cell? ⟨gb, o + i * 3, none⟩ = some (.int .i64 us) ∧ w'.cell? ⟨gb, o + i * 3 + 1, none⟩ = some (.int .i64 ep) ∧ w'.cell? ⟨gb, o + i * 3 + 2, none⟩ = some (.int .i64 pb)) := by
            refine Calls.mono (rfits_any (w := wr.drew) us ep pb) ?_
            rintro e w' ⟨h1, h2'⟩
            have h2 : Below wr.heap.size wr w' := bw_tr (Below.refl _ _).drew h2'
            exact ⟨by rw [h1, hdb], bw_tr (unhide BB) h2, ⟨by rw [h2.cell (lt_of_cell f0)]; exact f0, by rw [h2.cell (lt_of_cell f1)]; exact f1, by rw [h2.cell (lt_of_cell f2)]; exact f2⟩⟩
          clear f0 f1 f2 hdb BB
          go_upto_region 4 with fail
          refine wp_region_held_drew (S := fun w' : World => w'.cell? ⟨gb, o + i * 3, none⟩ = some (.int .i64 us) ∧ w'.cell? ⟨gb, o + i * 3 + 1, none⟩ = some (.int .i64 ep) ∧ w'.cell? ⟨gb, o + i * 3 + 2, none⟩ = some (.int .i64 pb)) (by kernel_rfl) S0 (fun hHeld => ?_)
          refine wpAnyH_take (i := 0) (oi := { dst := some 10, op := Op.move (Operand.tmp 0), type := 56, pos := "ref.go:89", after := #[], guard := none }) (v := ?v0r4) rfl (by kernel_rfl) (by kernel_rfl) (by kernel_rfl) (fun _ _ _ h => h) (Or.inl ⟨by rfl, ?hy0r4⟩) (by exact hHeld) ?_
          case hy0r4 => (intro w hSw; (try dsimp only at hSw); go_simp; try (with_reducible rfl))
          try simp only [Act.put, List.setIfInBounds_toArray, List.set_cons_zero, List.set_cons_succ]
          refine wpAnyH_take (i := 1) (oi := { dst := some 11, op := Op.move (Operand.tmp 3), type := 3, pos := "ref.go:89", after := #[], guard := none }) (v := ?v1r4) rfl (by kernel_rfl) (by kernel_rfl) (by kernel_rfl) (fun _ _ _ h => h) (Or.inl ⟨by rfl, ?hy1r4⟩) (by exact hHeld) ?_
          case hy1r4 => (intro w hSw; (try dsimp only at hSw); go_simp; try (with_reducible rfl))
          try simp only [Act.put, List.setIfInBounds_toArray, List.set_cons_zero, List.set_cons_succ]
          refine wpAnyH_take (i := 2) (oi := { dst := some 12, op := Op.indexAddr 56 (Operand.tmp 10) (Operand.tmp 11), type := 0, pos := "ref.go:89", after := #[{ on := 0, ground := Ground.data }, { on := 1, ground := Ground.data }], guard := none }) (v := ?v2r4) rfl (by kernel_rfl) (by kernel_rfl) (by kernel_rfl) (fun _ _ _ h => h) (Or.inl ⟨by rfl, ?hy2r4⟩) (by exact hHeld) ?_
          case hy2r4 => (intro w hSw; (try dsimp only at hSw); go_simp; try (with_reducible rfl))
          try simp only [Act.put, List.setIfInBounds_toArray, List.set_cons_zero, List.set_cons_succ]
          refine wpAnyH_take (i := 3) (oi := { dst := some 13, op := Op.load 44 (Operand.tmp 12), type := 44, pos := "ref.go:89", after := #[{ on := 2, ground := Ground.data }], guard := none }) (v := ?v3r4) rfl (by kernel_rfl) (by kernel_rfl) (by kernel_rfl) (fun _ _ _ h => h) (Or.inl ⟨by rfl, ?hy3r4⟩) (by exact hHeld) ?_
          case hy3r4 => (intro w hSw; (try dsimp only at hSw); go_simp; try (with_reducible rfl))
          try simp only [Act.put, List.setIfInBounds_toArray, List.set_cons_zero, List.set_cons_succ]
          refine wpAnyH_ready (rs := [4]) (by kernel_rfl) (by simp) ?_
          refine AllReadyH.cons (o := { dst := some 14, op := Op.call { callee := Callee.value (Operand.func 50), args := #[Operand.tmp 13], argTypes := #[44] }, type := 4, pos := "ref.go:89", after := #[{ on := 3, ground := Ground.data }], guard := none }) rfl (fun K hK => ?_) AllReadyH.nil
          go_simp
          go_at_call 50
          refine (unhide K0).mono ?_
          rintro e z1 ⟨rfl, B1, S1⟩
          go_wp2_with fail
          refine hK.out _ _ S1 (fun _ => ?_)
          clear hK K
          try simp only [Act.put, List.setIfInBounds_toArray, List.set_cons_zero, List.set_cons_succ]
          refine wpAnyH_take (i := 5) (oi := { dst := some 15, op := Op.unOp UnOp.not 4 (Operand.tmp 14), type := 4, pos := "ref.go:89", after := #[{ on := 4, ground := Ground.data }], guard := none }) (v := ?v5r4) rfl (by kernel_rfl) (by kernel_rfl) (by kernel_rfl) (fun _ _ _ h => h) (Or.inl ⟨by rfl, ?hy5r4⟩) (by exact S1) ?_
          case hy5r4 => (intro w hSw; (try dsimp only at hSw); go_simp; try (with_reducible rfl))
          try simp only [Act.put, List.setIfInBounds_toArray, List.set_cons_zero, List.set_cons_succ]
          refine wpAnyH_take (i := 6) (oi := { dst := some 16, op := Op.move (Operand.tmp 15), type := 4, pos := "ref.go:89", after := #[{ on := 5, ground := Ground.data }, { on := 4, ground := Ground.chain }], guard := none }) (v := ?v6r4) rfl (by kernel_rfl) (by kernel_rfl) (by kernel_rfl) (fun _ _ _ h => h) (Or.inl ⟨by rfl, ?hy6r4⟩) (by exact S1) ?_
          case hy6r4 => (intro w hSw; (try dsimp only at hSw); go_simp; try (with_reducible rfl))
          try simp only [Act.put, List.setIfInBounds_toArray, List.set_cons_zero, List.set_cons_succ]
          refine wpAnyH_take (i := 7) (oi := { dst := some 17, op := Op.move (Operand.tmp 3), type := 3, pos := "ref.go:89", after := #[{ on := 6, ground := Ground.guard }], guard := some (6, false) }) (v := undef) rfl (by kernel_rfl) (by kernel_rfl) (by kernel_rfl) (fun _ _ _ h => h) (Or.inr ⟨by rfl, rfl⟩) (by exact S1) ?_
          try simp only [Act.put, List.setIfInBounds_toArray, List.set_cons_zero, List.set_cons_succ]
          refine wpAnyH_take (i := 8) (oi := { dst := some 18, op := Op.binOp BinOp.gtr 3 (Operand.tmp 17) (Operand.const (Value.int IntKind.i64 0)) 3, type := 4, pos := "ref.go:89", after := #[{ on := 7, ground := Ground.data }, { on := 6, ground := Ground.guard }], guard := some (6, false) }) (v := undef) rfl (by kernel_rfl) (by kernel_rfl) (by kernel_rfl) (fun _ _ _ h => h) (Or.inr ⟨by rfl, rfl⟩) (by exact S1) ?_
          try simp only [Act.put, List.setIfInBounds_toArray, List.set_cons_zero, List.set_cons_succ]
          refine wpAnyH_take (i := 9) (oi := { dst := some 19, op := Op.move (Operand.tmp 18), type := 4, pos := "ref.go:89", after := #[{ on := 8, ground := Ground.data }, { on := 6, ground := Ground.chain }, { on := 6, ground := Ground.guard }], guard := some (6, false) }) (v := undef) rfl (by kernel_rfl) (by kernel_rfl) (by kernel_rfl) (fun _ _ _ h => h) (Or.inr ⟨by rfl, rfl⟩) (by exact S1) ?_
          try simp only [Act.put, List.setIfInBounds_toArray, List.set_cons_zero, List.set_cons_succ]
          refine wpAnyH_take (i := 10) (oi := { dst := some 20, op := Op.move (Operand.tmp 0), type := 56, pos := "ref.go:89", after := #[{ on := 9, ground := Ground.guard }], guard := some (9, true) }) (v := undef) rfl (by kernel_rfl) (by kernel_rfl) (by kernel_rfl) (fun _ _ _ h => h) (Or.inr ⟨by rfl, rfl⟩) (by exact S1) ?_
          try simp only [Act.put, List.setIfInBounds_toArray, List.set_cons_zero, List.set_cons_succ]
          refine wpAnyH_take (i := 11) (oi := { dst := some 21, op := Op.move (Operand.tmp 3), type := 3, pos := "ref.go:89", after := #[{ on := 9, ground := Ground.guard }], guard := some (9, true) }) (v := undef) rfl (by kernel_rfl) (by kernel_rfl) (by kernel_rfl) (fun _ _ _ h => h) (Or.inr ⟨by rfl, rfl⟩) (by exact S1) ?_
          try simp only [Act.put, List.setIfInBounds_toArray, List.set_cons_zero, List.set_cons_succ]
          refine wpAnyH_take (i := 12) (oi := { dst := some 22, op := Op.indexAddr 56 (Operand.tmp 20) (Operand.tmp 21), type := 0, pos := "ref.go:89", after := #[{ on := 10, ground := Ground.data }, { on := 11, ground := Ground.data }, { on := 9, ground := Ground.guard }], guard := some (9, true) }) (v := undef) rfl (by kernel_rfl) (by kernel_rfl) (by kernel_rfl) (fun _ _ _ h => h) (Or.inr ⟨by rfl, rfl⟩) (by exact S1) ?_
          try simp only [Act.put, List.setIfInBounds_toArray, List.set_cons_zero, List.set_cons_succ]
          refine wpAnyH_take (i := 13) (oi := { dst := some 23, op := Op.fieldAddr 44 (Operand.tmp 22) 0, type := 0, pos := "ref.go:89", after := #[{ on := 12, ground := Ground.data }, { on := 9, ground := Ground.guard }], guard := some (9, true) }) (v := undef) rfl (by kernel_rfl) (by kernel_rfl) (by kernel_rfl) (fun _ _ _ h => h) (Or.inr ⟨by rfl, rfl⟩) (by exact S1) ?_
          try simp only [Act.put, List.setIfInBounds_toArray, List.set_cons_zero, List.set_cons_succ]
          refine wpAnyH_take (i := 14) (oi := { dst := some 24, op := Op.load 3 (Operand.tmp 23), type := 3, pos := "ref.go:89", after := #[{ on := 13, ground := Ground.data }, { on := 9, ground := Ground.guard }], guard := some (9, true) }) (v := undef) rfl (by kernel_rfl) (by kernel_rfl) (by kernel_rfl) (fun _ _ _ h => h) (Or.inr ⟨by rfl, rfl⟩) (by exact S1) ?_
          try simp only [Act.put, List.setIfInBounds_toArray, List.set_cons_zero, List.set_cons_succ]
          refine wpAnyH_take (i := 15) (oi := { dst := some 25, op := Op.move (Operand.tmp 0), type := 56, pos := "ref.go:89", after := #[{ on := 9, ground := Ground.guard }], guard := some (9, true) }) (v := undef) rfl (by kernel_rfl) (by kernel_rfl) (by kernel_rfl) (fun _ _ _ h => h) (Or.inr ⟨by rfl, rfl⟩) (by exact S1) ?_
          try simp only [Act.put, List.setIfInBounds_toArray, List.set_cons_zero, List.set_cons_succ]
          refine wpAnyH_take (i := 16) (oi := { dst := some 26, op := Op.move (Operand.tmp 3), type := 3, pos := "ref.go:89", after := #[{ on := 9, ground := Ground.guard }], guard := some (9, true) }) (v := undef) rfl (by kernel_rfl) (by kernel_rfl) (by kernel_rfl) (fun _ _ _ h => h) (Or.inr ⟨by rfl, rfl⟩) (by exact S1) ?_
          try simp only [Act.put, List.setIfInBounds_toArray, List.set_cons_zero, List.set_cons_succ]
          refine wpAnyH_take (i := 17) (oi := { dst := some 27, op := Op.binOp BinOp.sub 3 (Operand.tmp 26) (Operand.const (Value.int IntKind.i64 1)) 3, type := 3, pos := "ref.go:89", after := #[{ on := 16, ground := Ground.data }, { on := 9, ground := Ground.guard }], guard := some (9, true) }) (v := undef) rfl (by kernel_rfl) (by kernel_rfl) (by kernel_rfl) (fun _ _ _ h => h) (Or.inr ⟨by rfl, rfl⟩) (by exact S1) ?_
          try simp only [Act.put, List.setIfInBounds_toArray, List.set_cons_zero, List.set_cons_succ]
          refine wpAnyH_take (i := 18) (oi := { dst := some 28, op := Op.indexAddr 56 (Operand.tmp 25) (Operand.tmp 27), type := 0, pos := "ref.go:89", after := #[{ on := 15, ground := Ground.data }, { on := 17, ground := Ground.data }, { on := 9, ground := Ground.guard }], guard := some (9, true) }) (v := undef) rfl (by kernel_rfl) (by kernel_rfl) (by kernel_rfl) (fun _ _ _ h => h) (Or.inr ⟨by rfl, rfl⟩) (by exact S1) ?_
          try simp only [Act.put, List.setIfInBounds_toArray, List.set_cons_zero, List.set_cons_succ]
          refine wpAnyH_take (i := 19) (oi := { dst := some 29, op := Op.fieldAddr 44 (Operand.tmp 28) 0, type := 0, pos := "ref.go:89", after := #[{ on := 18, ground := Ground.data }, { on := 9, ground := Ground.guard }], guard := some (9, true) }) (v := undef) rfl (by kernel_rfl) (by kernel_rfl) (by kernel_rfl) (fun _ _ _ h => h) (Or.inr ⟨by rfl, rfl⟩) (by exact S1) ?_
          try simp only [Act.put, List.setIfInBounds_toArray, List.set_cons_zero, List.set_cons_succ]
          refine wpAnyH_take (i := 20) (oi := { dst := some 30, op := Op.load 3 (Operand.tmp 29), type := 3, pos := "ref.go:89", after := #[{ on := 19, ground := Ground.data }, { on := 9, ground := Ground.guard }], guard := some (9, true) }) (v := undef) rfl (by kernel_rfl) (by kernel_rfl) (by kernel_rfl) (fun _ _ _ h => h) (Or.inr ⟨by rfl, rfl⟩) (by exact S1) ?_
          try simp only [Act.put, List.setIfInBounds_toArray, List.set_cons_zero, List.set_cons_succ]
          refine wpAnyH_take (i := 21) (oi := { dst := some 31, op := Op.binOp BinOp.leq 3 (Operand.tmp 24) (Operand.tmp 30) 3, type := 4, pos := "ref.go:89", after := #[{ on := 14, ground := Ground.data }, { on := 20, ground := Ground.data }, { on := 9, ground := Ground.guard }], guard := some (9, true) }) (v := undef) rfl (by kernel_rfl) (by kernel_rfl) (by kernel_rfl) (fun _ _ _ h => h) (Or.inr ⟨by rfl, rfl⟩) (by exact S1) ?_
          try simp only [Act.put, List.setIfInBounds_toArray, List.set_cons_zero, List.set_cons_succ]
          refine wpAnyH_take (i := 22) (oi := { dst := some 32, op := Op.pick (Operand.tmp 19) (Operand.tmp 31) (Operand.const (Value.bool false)), type := 4, pos := "ref.go:89", after := #[{ on := 9, ground := Ground.data }, { on := 21, ground := Ground.data }, { on := 6, ground := Ground.guard }], guard := some (6, false) }) (v := undef) rfl (by kernel_rfl) (by kernel_rfl) (by kernel_rfl) (fun _ _ _ h => h) (Or.inr ⟨by rfl, rfl⟩) (by exact S1) ?_
          try simp only [Act.put, List.setIfInBounds_toArray, List.set_cons_zero, List.set_cons_succ]
          refine wpAnyH_take (i := 23) (oi := { dst := some 33, op := Op.pick (Operand.tmp 16) (Operand.const (Value.bool true)) (Operand.tmp 32), type := 4, pos := "ref.go:89", after := #[{ on := 6, ground := Ground.data }, { on := 22, ground := Ground.data }], guard := none }) (v := ?v23r4) rfl (by kernel_rfl) (by kernel_rfl) (by kernel_rfl) (fun _ _ _ h => h) (Or.inl ⟨by rfl, ?hy23r4⟩) (by exact S1) ?_
          case hy23r4 => (intro w hSw; (try dsimp only at hSw); go_simp; try (with_reducible rfl))
          try simp only [Act.put, List.setIfInBounds_toArray, List.set_cons_zero, List.set_cons_succ]
          refine wpAnyH_done (by kernel_rfl) ?_ _
          clear S0 S00 S1 K0
          go_wp2_with fail
          go_ret
          exact ⟨by rw [unhide HR1]; rfl, unhide B1⟩
      · obtain ⟨q, hq⟩ : ∃ q, l[i - 1]? = some q := ⟨_, List.getElem?_eq_getElem (by omega)⟩
        obtain ⟨gb', o', x', e', hx', hcv', hc'⟩ := h.get hq
        cases e'
        obtain ⟨qd, hqd⟩ : ∃ z, z = q.us := ⟨_, rfl⟩
        have d3 : w.cell? ⟨gb, o + (i - 1) * 3, none⟩ = some (.int .i64 qd) := by rw [hqd]; exact hc' 0 _ rfl
        obtain ⟨i', hi'⟩ : ∃ z, z = i - 1 := ⟨_, rfl⟩
        rw [← hi'] at d3 hq
        clear hc' hx' hcv'
        have f3 : wr.cell? ⟨gb, o + i' * 3, none⟩ = some (.int .i64 qd) := by rw [(unhide HR).1.cell (lt_of_cell d3)]; exact d3
        have v1 : (i : Int) - 1 = (i' : Int) := by omega
        have hw2 : IntKind.i64.wrap (i' : Int) = (i' : Int) := by rw [IntKind.wrap_i64]; omega
        have v2 : (i' : Int) < (N : Int) := by omega
        have v3 : (0 : Int) ≤ (i' : Int) := by omega
        have v4 : (0 : Int) < (i : Int) := by omega
        have v7 : decide (0 < i) = true := decide_eq_true (by omega)
        have v8 : 0 < i := by omega
        by_cases hqp : qd < us
        · have v5 : ¬ us ≤ qd := by omega
          have v6 : decide (us ≤ qd) = false := decide_eq_false v5
          by_cases hdv : 0 ≤ us ∧ us < 64 ∧ 0 ≤ ep ∧ 0 < pb
          · have hdb : decide (0 ≤ us ∧ us < 64 ∧ 0 ≤ ep ∧ 0 < pb) = true := decide_eq_true hdv
            have HNX : Hid (∀ j, j < i + 1 → okX l j) := unhide HOK hdv (fun q' i'' e hq' => by
              obtain rfl : i'' = i' := by omega
              rw [hq] at hq'
              cases hq'
              rw [← hqd, ← hus]
              exact hqp)
            clear h hN hr hp d0 d1 d2 hus hep hpb HOK HR HB hi0 hq hqd hi' d3 hqp hdv
            have S0 : wr.cell? ⟨gb, o + i * 3, none⟩ = some (.int .i64 us) ∧ wr.cell? ⟨gb, o + i * 3 + 1, none⟩ = some (.int .i64 ep) ∧ wr.cell? ⟨gb, o + i * 3 + 2, none⟩ = some (.int .i64 pb) ∧ wr.cell? ⟨gb, o + i' * 3, none⟩ = some (.int .i64 qd) := ⟨f0, f1, f2, f3⟩
            have S00 : wr.drew.cell? ⟨gb, o + i * 3, none⟩ = some (.int .i64 us) ∧ wr.drew.cell? ⟨gb, o + i * 3 + 1, none⟩ = some (.int .i64 ep) ∧ wr.drew.cell? ⟨gb, o + i * 3 + 2, none⟩ = some (.int .i64 pb) ∧ wr.drew.cell? ⟨gb, o + i' * 3, none⟩ = some (.int .i64 qd) := S0
            have K0 : Hid (Calls Tryz.prog 50 #[.agg #[.int .i64 us, .int .i64 ep, .int .i64 pb]] wr.drew fun e w' => e = .returned (.bool true) ∧ Hid (Below w.heap.size w w') ∧ w'.cell? ⟨gb, o + i * 3, none⟩ = some (.int .i64 us) ∧ w'.cell? ⟨gb, o + i * 3 + 1, none⟩ = some (.int .i64 ep) ∧ w'.cell? ⟨gb, o + i * 3 + 2, none⟩ = some (.int .i64 pb) ∧ w'.cell? ⟨gb, o + i' * 3, none⟩ = some (.int .i64 qd)) := by
              refine Calls.mono (rfits_any (w := wr.drew) us ep pb) ?_
              rintro e w' ⟨h1, h2'⟩
              have h2 : Below wr.heap.size wr w' := bw_tr (Below.refl _ _).drew h2'
              exact ⟨by rw [h1, hdb], bw_tr (unhide BB) h2, ⟨by rw [h2.cell (lt_of_cell f0)]; exact f0, by rw [h2.cell (lt_of_cell f1)]; exact f1, by rw [h2.cell (lt_of_cell f2)]; exact f2, by rw [h2.cell (lt_of_cell f3)]; exact f3⟩⟩
            clear f0 f1 f2 f3 hdb BB
            go_upto_region 4 with fail
            refine wp_region_held_drew (S := fun w' : World => w'.cell? ⟨gb, o + i * 3, none⟩ = some (.int .i64 us) ∧ w'.cell? ⟨gb, o + i * 3 + 1, none⟩ = some (.int .i64 ep) ∧ w'.cell? ⟨gb, o + i * 3 + 2, none⟩ = some (.int .i64 pb) ∧ w'.cell? ⟨gb, o + i' * 3, none⟩ = some (.int .i64 qd)) (by kernel_rfl) S0 (fun hHeld => ?_)
            refine wpAnyH_take (i := 0) (oi := { dst := some 10, op := Op.move (Operand.tmp 0), type := 56, pos := "ref.go:89", after := #[], guard := none }) (v := ?v0r5) rfl (by kernel_rfl) (by kernel_rfl) (by kernel_rfl) (fun _ _ _ h => h) (Or.inl ⟨by rfl, ?hy0r5⟩) (by exact hHeld) ?_
            case hy0r5 => (intro w hSw; (try dsimp only at hSw); go_simp; try (with_reducible rfl))
            try simp only [Act.put, List.setIfInBounds_toArray, List.set_cons_zero, List.set_cons_succ]
            refine wpAnyH_take (i := 1) (oi := { dst := some 11, op := Op.move (Operand.tmp 3), type := 3, pos := "ref.go:89", after := #[], guard := none }) (v := ?v1r5) rfl (by kernel_rfl) (by kernel_rfl) (by kernel_rfl) (fun _ _ _ h => h) (Or.inl ⟨by rfl, ?hy1r5⟩) (by exact hHeld) ?_
            case hy1r5 => (intro w hSw; (try dsimp only at hSw); go_simp; try (with_reducible rfl))
            try simp only [Act.put, List.setIfInBounds_toArray, List.set_cons_zero, List.set_cons_succ]
            refine wpAnyH_take (i := 2) (oi := { dst := some 12, op := Op.indexAddr 56 (Operand.tmp 10) (Operand.tmp 11), type := 0, pos := "ref.go:89", after := #[{ on := 0, ground := Ground.data }, { on := 1, ground := Ground.data }], guard := none }) (v := ?v2r5) rfl (by kernel_rfl) (by kernel_rfl) (by kernel_rfl) (fun _ _ _ h => h) (Or.inl ⟨by rfl, ?hy2r5⟩) (by exact hHeld) ?_
            case hy2r5 => (intro w hSw; (try dsimp only at hSw); go_simp; try (with_reducible rfl))
            try simp only [Act.put, List.setIfInBounds_toArray, List.set_cons_zero, List.set_cons_succ]
            refine wpAnyH_take (i := 3) (oi := { dst := some 13, op := Op.load 44 (Operand.tmp 12), type := 44, pos := "ref.go:89", after := #[{ on := 2, ground := Ground.data }], guard := none }) (v := ?v3r5) rfl (by kernel_rfl) (by kernel_rfl) (by kernel_rfl) (fun _ _ _ h => h) (Or.inl ⟨by rfl, ?hy3r5⟩) (by exact hHeld) ?_
            case hy3r5 => (intro w hSw; (try dsimp only at hSw); go_simp; try (with_reducible rfl))
            try simp only [Act.put, List.setIfInBounds_toArray, List.set_cons_zero, List.set_cons_succ]
            refine wpAnyH_ready (rs := [4]) (by kernel_rfl) (by simp) ?_
            refine AllReadyH.cons (o := { dst := some 14, op := Op.call { callee := Callee.value (Operand.func 50), args := #[Operand.tmp 13], argTypes := #[44] }, type := 4, pos := "ref.go:89", after := #[{ on := 3, ground := Ground.data }], guard := none }) rfl (fun K hK => ?_) AllReadyH.nil
            go_simp
            go_at_call 50
            refine (unhide K0).mono ?_
            rintro e z1 ⟨rfl, B1, S1⟩
            go_wp2_with fail
            refine hK.out _ _ S1 (fun _ => ?_)
            clear hK K
            try simp only [Act.put, List.setIfInBounds_toArray, List.set_cons_zero, List.set_cons_succ]
            refine wpAnyH_take (i := 5) (oi := { dst := some 15, op := Op.unOp UnOp.not 4 (Operand.tmp 14), type := 4, pos := "ref.go:89", after := #[{ on := 4, ground := Ground.data }], guard := none }) (v := ?v5r5) rfl (by kernel_rfl) (by kernel_rfl) (by kernel_rfl) (fun _ _ _ h => h) (Or.inl ⟨by rfl, ?hy5r5⟩) (by exact S1) ?_
            case hy5r5 => (intro w hSw; (try dsimp only at hSw); go_simp; try (with_reducible rfl))
            try simp only [Act.put, List.setIfInBounds_toArray, List.set_cons_zero, List.set_cons_succ]
            refine wpAnyH_take (i := 6) (oi := { dst := some 16, op := Op.move (Operand.tmp 15), type := 4, pos := "ref.go:89", after := #[{ on := 5, ground := Ground.data }, { on := 4, ground := Ground.chain }], guard := none }) (v := ?v6r5) rfl (by kernel_rfl) (by kernel_rfl) (by kernel_rfl) (fun _ _ _ h => h) (Or.inl ⟨by rfl, ?hy6r5⟩) (by exact S1) ?_
            case hy6r5 => (intro w hSw; (try dsimp only at hSw); go_simp; try (with_reducible rfl))
            try simp only [Act.put, List.setIfInBounds_toArray, List.set_cons_zero, List.set_cons_succ]
            refine wpAnyH_take (i := 7) (oi := { dst := some 17, op := Op.move (Operand.tmp 3), type := 3, pos := "ref.go:89", after := #[{ on := 6, ground := Ground.guard }], guard := some (6, false) }) (v := ?v7r5) rfl (by kernel_rfl) (by kernel_rfl) (by kernel_rfl) (fun _ _ _ h => h) (Or.inl ⟨by rfl, ?hy7r5⟩) (by exact S1) ?_
            case hy7r5 => (intro w hSw; (try dsimp only at hSw); go_simp; try (with_reducible rfl))
            try simp only [Act.put, List.setIfInBounds_toArray, List.set_cons_zero, List.set_cons_succ]
            refine wpAnyH_take (i := 8) (oi := { dst := some 18, op := Op.binOp BinOp.gtr 3 (Operand.tmp 17) (Operand.const (Value.int IntKind.i64 0)) 3, type := 4, pos := "ref.go:89", after := #[{ on := 7, ground := Ground.data }, { on := 6, ground := Ground.guard }], guard := some (6, false) }) (v := ?v8r5) rfl (by kernel_rfl) (by kernel_rfl) (by kernel_rfl) (fun _ _ _ h => h) (Or.inl ⟨by rfl, ?hy8r5⟩) (by exact S1) ?_
            case hy8r5 => (intro w hSw; (try dsimp only at hSw); go_simp; try (with_reducible rfl))
            try simp only [Act.put, List.setIfInBounds_toArray, List.set_cons_zero, List.set_cons_succ]
            refine wpAnyH_take (i := 9) (oi := { dst := some 19, op := Op.move (Operand.tmp 18), type := 4, pos := "ref.go:89", after := #[{ on := 8, ground := Ground.data }, { on := 6, ground := Ground.chain }, { on := 6, ground := Ground.guard }], guard := some (6, false) }) (v := ?v9r5) rfl (by kernel_rfl) (by kernel_rfl) (by kernel_rfl) (fun _ _ _ h => h) (Or.inl ⟨by rfl, ?hy9r5⟩) (by exact S1) ?_
            case hy9r5 => (intro w hSw; (try dsimp only at hSw); go_simp; try (with_reducible rfl))
            try simp only [Act.put, List.setIfInBounds_toArray, List.set_cons_zero, List.set_cons_succ]
            refine wpAnyH_take (i := 10) (oi := { dst := some 20, op := Op.move (Operand.tmp 0), type := 56, pos := "ref.go:89", after := #[{ on := 9, ground := Ground.guard }], guard := some (9, true) }) (v := ?v10r5) rfl (by kernel_rfl) (by kernel_rfl) (by kernel_rfl) (fun _ _ _ h => h) (Or.inl ⟨by rfl, ?hy10r5⟩) (by exact S1) ?_
            case hy10r5 => (intro w hSw; (try dsimp only at hSw); go_simp; try (with_reducible rfl))
            try simp only [Act.put, List.setIfInBounds_toArray, List.set_cons_zero, List.set_cons_succ]
            refine wpAnyH_take (i := 11) (oi := { dst := some 21, op := Op.move (Operand.tmp 3), type := 3, pos := "ref.go:89", after := #[{ on := 9, ground := Ground.guard }], guard := some (9, true) }) (v := ?v11r5) rfl (by kernel_rfl) (by kernel_rfl) (by kernel_rfl) (fun _ _ _ h => h) (Or.inl ⟨by rfl, ?hy11r5⟩) (by exact S1) ?_
            case hy11r5 => (intro w hSw; (try dsimp only at hSw); go_simp; try (with_reducible rfl))
            try simp only [Act.put, List.setIfInBounds_toArray, List.set_cons_zero, List.set_cons_succ]
            refine wpAnyH_take (i := 12) (oi := { dst := some 22, op := Op.indexAddr 56 (Operand.tmp 20) (Operand.tmp 21), type := 0, pos := "ref.go:89", after := #[{ on := 10, ground := Ground.data }, { on := 11, ground := Ground.data }, { on := 9, ground := Ground.guard }], guard := some (9, true) }) (v := ?v12r5) rfl (by kernel_rfl) (by kernel_rfl) (by kernel_rfl) (fun _ _ _ h => h) (Or.inl ⟨by rfl, ?hy12r5⟩) (by exact S1) ?_
            case hy12r5 => (intro w hSw; (try dsimp only at hSw); go_simp; try (with_reducible rfl))
            try simp only [Act.put, List.setIfInBounds_toArray, List.set_cons_zero, List.set_cons_succ]
            refine wpAnyH_take (i := 13) (oi := { dst := some 23, op := Op.fieldAddr 44 (Operand.tmp 22) 0, type := 0, pos := "ref.go:89", after := #[{ on := 12, ground := Ground.data }, { on := 9, ground := Ground.guard }], guard := some (9, true) }) (v := ?v13r5) rfl (by kernel_rfl) (by kernel_rfl) (by kernel_rfl) (fun _ _ _ h => h) (Or.inl ⟨by rfl, ?hy13r5⟩) (by exact S1) ?_
            case hy13r5 => (intro w hSw; (try dsimp only at hSw); go_simp; try (with_reducible rfl))
            try simp only [Act.put, List.setIfInBounds_toArray, List.set_cons_zero, List.set_cons_succ]
            refine wpAnyH_take (i := 14) (oi := { dst := some 24, op := Op.load 3 (Operand.tmp 23), type := 3, pos := "ref.go:89", after := #[{ on := 13, ground := Ground.data }, { on := 9, ground := Ground.guard }], guard := some (9, true) }) (v := ?v14r5) rfl (by kernel_rfl) (by kernel_rfl) (by kernel_rfl) (fun _ _ _ h => h) (Or.inl ⟨by rfl, ?hy14r5⟩) (by exact S1) ?_
            case hy14r5 => (intro w hSw; (try dsimp only at hSw); go_simp; try (with_reducible rfl))
            try simp only [Act.put, List.setIfInBounds_toArray, List.set_cons_zero, List.set_cons_succ]
            refine wpAnyH_take (i := 15) (oi := { dst := some 25, op := Op.move (Operand.tmp 0), type := 56, pos := "ref.go:89", after := #[{ on := 9, ground := Ground.guard }], guard := some (9, true) }) (v := ?v15r5) rfl (by kernel_rfl) (by kernel_rfl) (by kernel_rfl) (fun _ _ _ h => h) (Or.inl ⟨by rfl, ?hy15r5⟩) (by exact S1) ?_
            case hy15r5 => (intro w hSw; (try dsimp only at hSw); go_simp; try (with_reducible rfl))
            try simp only [Act.put, List.setIfInBounds_toArray, List.set_cons_zero, List.set_cons_succ]
            refine wpAnyH_take (i := 16) (oi := { dst := some 26, op := Op.move (Operand.tmp 3), type := 3, pos := "ref.go:89", after := #[{ on := 9, ground := Ground.guard }], guard := some (9, true) }) (v := ?v16r5) rfl (by kernel_rfl) (by kernel_rfl) (by kernel_rfl) (fun _ _ _ h => h) (Or.inl ⟨by rfl, ?hy16r5⟩) (by exact S1) ?_
            case hy16r5 => (intro w hSw; (try dsimp only at hSw); go_simp; try (with_reducible rfl))
            try simp only [Act.put, List.setIfInBounds_toArray, List.set_cons_zero, List.set_cons_succ]
            refine wpAnyH_take (i := 17) (oi := { dst := some 27, op := Op.binOp BinOp.sub 3 (Operand.tmp 26) (Operand.const (Value.int IntKind.i64 1)) 3, type := 3, pos := "ref.go:89", after := #[{ on := 16, ground := Ground.data }, { on := 9, ground := Ground.guard }], guard := some (9, true) }) (v := ?v17r5) rfl (by kernel_rfl) (by kernel_rfl) (by kernel_rfl) (fun _ _ _ h => h) (Or.inl ⟨by rfl, ?hy17r5⟩) (by exact S1) ?_
            case hy17r5 => (intro w hSw; (try dsimp only at hSw); go_simp; try (with_reducible rfl))
            try simp only [Act.put, List.setIfInBounds_toArray, List.set_cons_zero, List.set_cons_succ]
            refine wpAnyH_take (i := 18) (oi := { dst := some 28, op := Op.indexAddr 56 (Operand.tmp 25) (Operand.tmp 27), type := 0, pos := "ref.go:89", after := #[{ on := 15, ground := Ground.data }, { on := 17, ground := Ground.data }, { on := 9, ground := Ground.guard }], guard := some (9, true) }) (v := ?v18r5) rfl (by kernel_rfl) (by kernel_rfl) (by kernel_rfl) (fun _ _ _ h => h) (Or.inl ⟨by rfl, ?hy18r5⟩) (by exact S1) ?_
            case hy18r5 => (intro w hSw; (try dsimp only at hSw); go_simp; try (with_reducible rfl))
            try simp only [Act.put, List.setIfInBounds_toArray, List.set_cons_zero, List.set_cons_succ]
            refine wpAnyH_take (i := 19) (oi := { dst := some 29, op := Op.fieldAddr 44 (Operand.tmp 28) 0, type := 0, pos := "ref.go:89", after := #[{ on := 18, ground := Ground.data }, { on := 9, ground := Ground.guard }], guard := some (9, true) }) (v := ?v19r5) rfl (by kernel_rfl) (by kernel_rfl) (by kernel_rfl) (fun _ _ _ h => h) (Or.inl ⟨by rfl, ?hy19r5⟩) (by exact S1) ?_
            case hy19r5 => (intro w hSw; (try dsimp only at hSw); go_simp; try (with_reducible rfl))
            try simp only [Act.put, List.setIfInBounds_toArray, List.set_cons_zero, List.set_cons_succ]
            refine wpAnyH_take (i := 20) (oi := { dst := some 30, op := Op.load 3 (Operand.tmp 29), type := 3, pos := "ref.go:89", after := #[{ on := 19, ground := Ground.data }, { on := 9, ground := Ground.guard }], guard := some (9, true) }) (v := ?v20r5) rfl (by kernel_rfl) (by kernel_rfl) (by kernel_rfl) (fun _ _ _ h => h) (Or.inl ⟨by rfl, ?hy20r5⟩) (by exact S1) ?_
            case hy20r5 => (intro w hSw; (try dsimp only at hSw); go_simp; try (with_reducible rfl))
            try simp only [Act.put, List.setIfInBounds_toArray, List.set_cons_zero, List.set_cons_succ]
            refine wpAnyH_take (i := 21) (oi := { dst := some 31, op := Op.binOp BinOp.leq 3 (Operand.tmp 24) (Operand.tmp 30) 3, type := 4, pos := "ref.go:89", after := #[{ on := 14, ground := Ground.data }, { on := 20, ground := Ground.data }, { on := 9, ground := Ground.guard }], guard := some (9, true) }) (v := ?v21r5) rfl (by kernel_rfl) (by kernel_rfl) (by kernel_rfl) (fun _ _ _ h => h) (Or.inl ⟨by rfl, ?hy21r5⟩) (by exact S1) ?_
            case hy21r5 => (intro w hSw; (try dsimp only at hSw); go_simp; try (with_reducible rfl))
            try simp only [Act.put, List.setIfInBounds_toArray, List.set_cons_zero, List.set_cons_succ]
            refine wpAnyH_take (i := 22) (oi := { dst := some 32, op := Op.pick (Operand.tmp 19) (Operand.tmp 31) (Operand.const (Value.bool false)), type := 4, pos := "ref.go:89", after := #[{ on := 9, ground := Ground.data }, { on := 21, ground := Ground.data }, { on := 6, ground := Ground.guard }], guard := some (6, false) }) (v := ?v22r5) rfl (by kernel_rfl) (by kernel_rfl) (by kernel_rfl) (fun _ _ _ h => h) (Or.inl ⟨by rfl, ?hy22r5⟩) (by exact S1) ?_
            case hy22r5 => (intro w hSw; (try dsimp only at hSw); go_simp; try (with_reducible rfl))
            try simp only [Act.put, List.setIfInBounds_toArray, List.set_cons_zero, List.set_cons_succ]
            refine wpAnyH_take (i := 23) (oi := { dst := some 33, op := Op.pick (Operand.tmp 16) (Operand.const (Value.bool true)) (Operand.tmp 32), type := 4, pos := "ref.go:89", after := #[{ on := 6, ground := Ground.data }, { on := 22, ground := Ground.data }], guard := none }) (v := ?v23r5) rfl (by kernel_rfl) (by kernel_rfl) (by kernel_rfl) (fun _ _ _ h => h) (Or.inl ⟨by rfl, ?hy23r5⟩) (by exact S1) ?_
            case hy23r5 => (intro w hSw; (try dsimp only at hSw); go_simp; try (with_reducible rfl))
            try simp only [Act.put, List.setIfInBounds_toArray, List.set_cons_zero, List.set_cons_succ]
            refine wpAnyH_done (by kernel_rfl) ?_ _
            clear S0 S00 S1 K0
            go_wp2_with fail
            go_roundw
            case rel => exact ⟨i + 1, by omega, by go_num, unhide B1, unhide HNX⟩
            case measure => simp only [intOf]; omega
          · have hdb : decide (0 ≤ us ∧ us < 64 ∧ 0 ≤ ep ∧ 0 < pb) = false := decide_eq_false hdv
            have HR1 : Hid (r = false) := unhide HB i hlt (fun ho => by
              have := (ho p hp).1
              rw [← hus, ← hep, ← hpb] at this
              exact hdv this)
            clear h hN hr hp d0 d1 d2 hus hep hpb HOK HR HB hi0 hq hqd hi' d3 hqp hdv
            have S0 : wr.cell? ⟨gb, o + i * 3, none⟩ = some (.int .i64 us) ∧ wr.cell? ⟨gb, o + i * 3 + 1, none⟩ = some (.int .i64 ep) ∧ wr.cell? ⟨gb, o + i * 3 + 2, none⟩ = some (.int .i64 pb) ∧ wr.cell? ⟨gb, o + i' * 3, none⟩ = some (.int .i64 qd) := ⟨f0, f1, f2, f3⟩
            have S00 : wr.drew.cell? ⟨gb, o + i * 3, none⟩ = some (.int .i64 us) ∧ wr.drew.cell? ⟨gb, o + i * 3 + 1, none⟩ = some (.int .i64 ep) ∧ wr.drew.cell? ⟨gb, o + i * 3 + 2, none⟩ = some (.int .i64 pb) ∧ wr.drew.cell? ⟨gb, o + i' * 3, none⟩ = some (.int .i64 qd) := S0
            have K0 : Hid (Calls Tryz.prog 50 #[.agg #[.int .i64 us, .int .i64 ep, .int .i64 pb]] wr.drew fun e w' => e = .returned (.bool false) ∧ Hid (Below w.heap.size w w') ∧ w'.cell? ⟨gb, o + i * 3, none⟩ = some (.int .i64 us) ∧ w'.cell? ⟨gb, o + i * 3 + 1, none⟩ = some (.int .i64 ep) ∧ w'.cell? ⟨gb, o + i * 3 + 2, none⟩ = some (.int .i64 pb) ∧ w'.cell? ⟨gb, o + i' * 3, none⟩ = some (.int .i64 qd)) := by
              refine Calls.mono (rfits_any (w := wr.drew) us ep pb) ?_
              rintro e w' ⟨h1, h2'⟩
              have h2 : Below wr.heap.size wr w' := bw_tr (Below.refl _ _).drew h2'
              exact ⟨by rw [h1, hdb], bw_tr (unhide BB) h2, ⟨by rw [h2.cell (lt_of_cell f0)]; exact f0, by rw [h2.cell (lt_of_cell f1)]; exact f1, by rw [h2.cell (lt_of_cell f2)]; exact f2, by rw [h2.cell (lt_of_cell f3)]; exact f3⟩⟩
            clear f0 f1 f2 f3 hdb BB
            go_upto_region 4 with fail
            refine wp_region_held_drew (S := fun w' : World => w'.cell? ⟨gb, o + i * 3, none⟩ = some (.int .i64 us) ∧ w'.cell? ⟨gb, o + i * 3 + 1, none⟩ = some (.int .i64 ep) ∧ w'.cell? ⟨gb, o + i * 3 + 2, none⟩ = some (.int .i64 pb) ∧ w'.cell? ⟨gb, o + i' * 3, none⟩ = some (.int .i64 qd)) (by kernel_rfl) S0 (fun hHeld => ?_)
            refine wpAnyH_take (i := 0) (oi := { dst := some 10, op := Op.move (Operand.tmp 0), type := 56, pos := "ref.go:89", after := #[], guard := none }) (v := ?v0r6) rfl (by kernel_rfl) (by kernel_rfl) (by kernel_rfl) (fun _ _ _ h => h) (Or.inl ⟨by rfl, ?hy0r6⟩) (by exact hHeld) ?_
            case hy0r6 => (intro w hSw; (try dsimp only at hSw); go_simp; try (with_reducible rfl))
            try simp only [Act.put, List.setIfInBounds_toArray, List.set_cons_zero, List.set_cons_succ]
            refine wpAnyH_take (i := 1) (oi := { dst := some 11, op := Op.move (Operand.tmp 3), type := 3, pos := "ref.go:89", after := #[], guard := none }) (v := ?v1r6) rfl (by kernel_rfl) (by kernel_rfl) (by kernel_rfl) (fun _ _ _ h => h) (Or.inl ⟨by rfl, ?hy1r6⟩) (by exact hHeld) ?_
            case hy1r6 => (intro w hSw; (try dsimp only at hSw); go_simp; try (with_reducible rfl))
            try simp only [Act.put, List.setIfInBounds_toArray, List.set_cons_zero, List.set_cons_succ]
            refine wpAnyH_take (i := 2) (oi := { dst := some 12, op := Op.indexAddr 56 (Operand.tmp 10) (Operand.tmp 11), type := 0, pos := "ref.go:89", after := #[{ on := 0, ground := Ground.data }, { on := 1, ground := Ground.data }], guard := none }) (v := ?v2r6) rfl (by kernel_rfl) (by kernel_rfl) (by kernel_rfl) (fun _ _ _ h => h) (Or.inl ⟨by rfl, ?hy2r6⟩) (by exact hHeld) ?_
            case hy2r6 => (intro w hSw; (try dsimp only at hSw); go_simp; try (with_reducible rfl))
            try simp only [Act.put, List.setIfInBounds_toArray, List.set_cons_zero, List.set_cons_succ]
            refine wpAnyH_take (i := 3) (oi := { dst := some 13, op := Op.load 44 (Operand.tmp 12), type := 44, pos := "ref.go:89", after := #[{ on := 2, ground := Ground.data }], guard := none }) (v := ?v3r6) rfl (by kernel_rfl) (by kernel_rfl) (by kernel_rfl) (fun _ _ _ h => h) (Or.inl ⟨by rfl, ?hy3r6⟩) (by exact hHeld) ?_
            case hy3r6 => (intro w hSw; (try dsimp only at hSw); go_simp; try (with_reducible rfl))
            try simp only [Act.put, List.setIfInBounds_toArray, List.set_cons_zero, List.set_cons_succ]
            refine wpAnyH_ready (rs := [4]) (by kernel_rfl) (by simp) ?_
            refine AllReadyH.cons (o := { dst := some 14, op := Op.call { callee := Callee.value (Operand.func 50), args := #[Operand.tmp 13], argTypes := #[44] }, type := 4, pos := "ref.go:89", after := #[{ on := 3, ground := Ground.data }], guard := none }) rfl (fun K hK => ?_) AllReadyH.nil
            go_simp
            go_at_call 50
            refine (unhide K0).mono ?_
            rintro e z1 ⟨rfl, B1, S1⟩
            go_wp2_with fail
            refine hK.out _ _ S1 (fun _ => ?_)
            clear hK K
            try simp only [Act.put, List.setIfInBounds_toArray, List.set_cons_zero, List.set_cons_succ]
            refine wpAnyH_take (i := 5) (oi := { dst := some 15, op := Op.unOp UnOp.not 4 (Operand.tmp 14), type := 4, pos := "ref.go:89", after := #[{ on := 4, ground := Ground.data }], guard := none }) (v := ?v5r6) rfl (by kernel_rfl) (by kernel_rfl) (by kernel_rfl) (fun _ _ _ h => h) (Or.inl ⟨by rfl, ?hy5r6⟩) (by exact S1) ?_
            case hy5r6 => (intro w hSw; (try dsimp only at hSw); go_simp; try (with_reducible rfl))
            try simp only [Act.put, List.setIfInBounds_toArray, List.set_cons_zero, List.set_cons_succ]
            refine wpAnyH_take (i := 6) (oi := { dst := some 16, op := Op.move (Operand.tmp 15), type := 4, pos := "ref.go:89", after := #[{ on := 5, ground := Ground.data }, { on := 4, ground := Ground.chain }], guard := none }) (v := ?v6r6) rfl (by kernel_rfl) (by kernel_rfl) (by kernel_rfl) (fun _ _ _ h => h) (Or.inl ⟨by rfl, ?hy6r6⟩) (by exact S1) ?_
            case hy6r6 => (intro w hSw; (try dsimp only at hSw); go_simp; try (with_reducible rfl))
            try simp only [Act.put, List.setIfInBounds_toArray, List.set_cons_zero, List.set_cons_succ]
            refine wpAnyH_take (i := 7) (oi := { dst := some 17, op := Op.move (Operand.tmp 3), type := 3, pos := "ref.go:89", after := #[{ on := 6, ground := Ground.guard }], guard := some (6, false) }) (v := undef) rfl (by kernel_rfl) (by kernel_rfl) (by kernel_rfl) (fun _ _ _ h => h) (Or.inr ⟨by rfl, rfl⟩) (by exact S1) ?_
            try simp only [Act.put, List.setIfInBounds_toArray, List.set_cons_zero, List.set_cons_succ]
            refine wpAnyH_take (i := 8) (oi := { dst := some 18, op := Op.binOp BinOp.gtr 3 (Operand.tmp 17) (Operand.const (Value.int IntKind.i64 0)) 3, type := 4, pos := "ref.go:89", after := #[{ on := 7, ground := Ground.data }, { on := 6, ground := Ground.guard }], guard := some (6, false) }) (v := undef) rfl (by kernel_rfl) (by kernel_rfl) (by kernel_rfl) (fun _ _ _ h => h) (Or.inr ⟨by rfl, rfl⟩) (by exact S1) ?_
            try simp only [Act.put, List.setIfInBounds_toArray, List.set_cons_zero, List.set_cons_succ]
            refine wpAnyH_take (i := 9) (oi := { dst := some 19, op := Op.move (Operand.tmp 18), type := 4, pos := "ref.go:89", after := #[{ on := 8, ground := Ground.data }, { on := 6, ground := Ground.chain }, { on := 6, ground := Ground.guard }], guard := some (6, false) }) (v := undef) rfl (by kernel_rfl) (by kernel_rfl) (by kernel_rfl) (fun _ _ _ h => h) (Or.inr ⟨by rfl, rfl⟩) (by exact S1) ?_
            try simp only [Act.put, List.setIfInBounds_toArray, List.set_cons_zero, List.set_cons_succ]
            refine wpAnyH_take (i := 10) (oi := { dst := some 20, op := Op.move (Operand.tmp 0), type := 56, pos := "ref.go:89", after := #[{ on := 9, ground := Ground.guard }], guard := some (9, true) }) (v := undef) rfl (by kernel_rfl) (by kernel_rfl) (by kernel_rfl) (fun _ _ _ h => h) (Or.inr ⟨by rfl, rfl⟩) (by exact S1) ?_
            try simp only [Act.put, List.setIfInBounds_toArray, List.set_cons_zero, List.set_cons_succ]
            refine wpAnyH_take (i := 11) (oi := { dst := some 21, op := Op.move (Operand.tmp 3), type := 3, pos := "ref.go:89", after := #[{ on := 9, ground := Ground.guard }], guard := some (9, true) }) (v := undef) rfl (by kernel_rfl) (by kernel_rfl) (by kernel_rfl) (fun _ _ _ h => h) (Or.inr ⟨by rfl, rfl⟩) (by exact S1) ?_
            try simp only [Act.put, List.setIfInBounds_toArray, List.set_cons_zero, List.set_cons_succ]
            refine wpAnyH_take (i := 12) (oi := { dst := some 22, op := Op.indexAddr 56 (Operand.tmp 20) (Operand.tmp 21), type := 0, pos := "ref.go:89", after := #[{ on := 10, ground := Ground.data }, { on := 11, ground := Ground.data }, { on := 9, ground := Ground.guard }], guard := some (9, true) }) (v := undef) rfl (by kernel_rfl) (by kernel_rfl) (by kernel_rfl) (fun _ _ _ h => h) (Or.inr ⟨by rfl, rfl⟩) (by exact S1) ?_
            try simp only [Act.put, List.setIfInBounds_toArray, List.set_cons_zero, List.set_cons_succ]
            refine wpAnyH_take (i := 13) (oi := { dst := some 23, op := Op.fieldAddr 44 (Operand.tmp 22) 0, type := 0, pos := "ref.go:89", after := #[{ on := 12, ground := Ground.data }, { on := 9, ground := Ground.guard }], guard := some (9, true) }) (v := undef) rfl (by kernel_rfl) (by kernel_rfl) (by kernel_rfl) (fun _ _ _ h => h) (Or.inr ⟨by rfl, rfl⟩) (by exact S1) ?_
            try simp only [Act.put, List.setIfInBounds_toArray, List.set_cons_zero, List.set_cons_succ]
            refine wpAnyH_take (i := 14) (oi := { dst := some 24, op := Op.load 3 (Operand.tmp 23), type := 3, pos := "ref.go:89", after := #[{ on := 13, ground := Ground.data }, { on := 9, ground := Ground.guard }], guard := some (9, true) }) (v := undef) rfl (by kernel_rfl) (by kernel_rfl) (by kernel_rfl) (fun _ _ _ h => h) (Or.inr ⟨by rfl, rfl⟩) (by exact S1) ?_
            try simp only [Act.put, List.setIfInBounds_toArray, List.set_cons_zero, List.set_cons_succ]
            refine wpAnyH_take (i := 15) (oi := { dst := some 25, op := Op.move (Operand.tmp 0), type := 56, pos := "ref.go:89", after := #[{ on := 9, ground := Ground.guard }], guard := some (9, true) }) (v := undef) rfl (by kernel_rfl) (by kernel_rfl) (by kernel_rfl) (fun _ _ _ h => h) (Or.inr ⟨by rfl, rfl⟩) (by exact S1) ?_
            try simp only [Act.put, List.setIfInBounds_toArray, List.set_cons_zero, List.set_cons_succ]
            refine wpAnyH_take (i := 16) (oi := { dst := some 26, op := Op.move (Operand.tmp 3), type := 3, pos := "ref.go:89", after := #[{ on := 9, ground := Ground.guard }], guard := some (9, true) }) (v := undef) rfl (by kernel_rfl) (by kernel_rfl) (by kernel_rfl) (fun _ _ _ h => h) (Or.inr ⟨by rfl, rfl⟩) (by exact S1) ?_
            try simp only [Act.put, List.setIfInBounds_toArray, List.set_cons_zero, List.set_cons_succ]
            refine wpAnyH_take (i := 17) (oi := { dst := some 27, op := Op.binOp BinOp.sub 3 (Operand.tmp 26) (Operand.const (Value.int IntKind.i64 1)) 3, type := 3, pos := "ref.go:89", after := #[{ on := 16, ground := Ground.data }, { on := 9, ground := Ground.guard }], guard := some (9, true) }) (v := undef) rfl (by kernel_rfl) (by kernel_rfl) (by kernel_rfl) (fun _ _ _ h => h) (Or.inr ⟨by rfl, rfl⟩) (by exact S1) ?_
            try simp only [Act.put, List.setIfInBounds_toArray, List.set_cons_zero, List.set_cons_succ]
            refine wpAnyH_take (i := 18) (oi := { dst := some 28, op := Op.indexAddr 56 (Operand.tmp 25) (Operand.tmp 27), type := 0, pos := "ref.go:89", after := #[{ on := 15, ground := Ground.data }, { on := 17, ground := Ground.data }, { on := 9, ground := Ground.guard }], guard := some (9, true) }) (v := undef) rfl (by kernel_rfl) (by kernel_rfl) (by kernel_rfl) (fun _ _ _ h => h) (Or.inr ⟨by rfl, rfl⟩) (by exact S1) ?_
            try simp only [Act.put, List.setIfInBounds_toArray, List.set_cons_zero, List.set_cons_succ]
            refine wpAnyH_take (i := 19) (oi := { dst := some 29, op := Op.fieldAddr 44 (Operand.tmp 28) 0, type := 0, pos := "ref.go:89", after := #[{ on := 18, ground := Ground.data }, { on := 9, ground := Ground.guard }], guard := some (9, true) }) (v := undef) rfl (by kernel_rfl) (by kernel_rfl) (by kernel_rfl) (fun _ _ _ h => h) (Or.inr ⟨by rfl, rfl⟩) (by exact S1) ?_
            try simp only [Act.put, List.setIfInBounds_toArray, List.set_cons_zero, List.set_cons_succ]
            refine wpAnyH_take (i := 20) (oi := { dst := some 30, op := Op.load 3 (Operand.tmp 29), type := 3, pos := "ref.go:89", after := #[{ on := 19, ground := Ground.data }, { on := 9, ground := Ground.guard }], guard := some (9, true) }) (v := undef) rfl (by kernel_rfl) (by kernel_rfl) (by kernel_rfl) (fun _ _ _ h => h) (Or.inr ⟨by rfl, rfl⟩) (by exact S1) ?_
            try simp only [Act.put, List.setIfInBounds_toArray, List.set_cons_zero, List.set_cons_succ]
            refine wpAnyH_take (i := 21) (oi := { dst := some 31, op := Op.binOp BinOp.leq 3 (Operand.tmp 24) (Operand.tmp 30) 3, type := 4, pos := "ref.go:89", after := #[{ on := 14, ground := Ground.data }, { on := 20, ground := Ground.data }, { on := 9, ground := Ground.guard }], guard := some (9, true) }) (v := undef) rfl (by kernel_rfl) (by kernel_rfl) (by kernel_rfl) (fun _ _ _ h => h) (Or.inr ⟨by rfl, rfl⟩) (by exact S1) ?_
            try simp only [Act.put, List.setIfInBounds_toArray, List.set_cons_zero, List.set_cons_succ]
            refine wpAnyH_take (i := 22) (oi := { dst := some 32, op := Op.pick (Operand.tmp 19) (Operand.tmp 31) (Operand.const (Value.bool false)), type := 4, pos := "ref.go:89", after := #[{ on := 9, ground := Ground.data }, { on := 21, ground := Ground.data }, { on := 6, ground := Ground.guard }], guard := some (6, false) }) (v := undef) rfl (by kernel_rfl) (by kernel_rfl) (by kernel_rfl) (fun _ _ _ h => h) (Or.inr ⟨by rfl, rfl⟩) (by exact S1) ?_
            try simp only [Act.put, List.setIfInBounds_toArray, List.set_cons_zero, List.set_cons_succ]
            refine wpAnyH_take (i := 23) (oi := { dst := some 33, op := Op.pick (Operand.tmp 16) (Operand.const (Value.bool true)) (Operand.tmp 32), type := 4, pos := "ref.go:89", after := #[{ on := 6, ground := Ground.data }, { on := 22, ground := Ground.data }], guard := none }) (v := ?v23r6) rfl (by kernel_rfl) (by kernel_rfl) (by kernel_rfl) (fun _ _ _ h => h) (Or.inl ⟨by rfl, ?hy23r6⟩) (by exact S1) ?_
            case hy23r6 => (intro w hSw; (try dsimp only at hSw); go_simp; try (with_reducible rfl))
            try simp only [Act.put, List.setIfInBounds_toArray, List.set_cons_zero, List.set_cons_succ]
            refine wpAnyH_done (by kernel_rfl) ?_ _
            clear S0 S00 S1 K0
            go_wp2_with fail
            go_ret
            exact ⟨by rw [unhide HR1]; rfl, unhide B1⟩
        · have HR1 : Hid (r = false) := unhide HB i hlt (fun ho => by
            have := (ho p hp).2 q i' (by omega) hq
            rw [← hqd, ← hus] at this
            exact hqp this)
          have v5 : us ≤ qd := by omega
          have v6 : decide (us ≤ qd) = true := decide_eq_true v5
          by_cases hdv : 0 ≤ us ∧ us < 64 ∧ 0 ≤ ep ∧ 0 < pb
          · have hdb : decide (0 ≤ us ∧ us < 64 ∧ 0 ≤ ep ∧ 0 < pb) = true := decide_eq_true hdv
            clear h hN hr hp d0 d1 d2 hus hep hpb HOK HR HB hi0 hq hqd hi' d3 hqp hdv
            have S0 : wr.cell? ⟨gb, o + i * 3, none⟩ = some (.int .i64 us) ∧ wr.cell? ⟨gb, o + i * 3 + 1, none⟩ = some (.int .i64 ep) ∧ wr.cell? ⟨gb, o + i * 3 + 2, none⟩ = some (.int .i64 pb) ∧ wr.cell? ⟨gb, o + i' * 3, none⟩ = some (.int .i64 qd) := ⟨f0, f1, f2, f3⟩
            have S00 : wr.drew.cell? ⟨gb, o + i * 3, none⟩ = some (.int .i64 us) ∧ wr.drew.cell? ⟨gb, o + i * 3 + 1, none⟩ = some (.int .i64 ep) ∧ wr.drew.cell? ⟨gb, o + i * 3 + 2, none⟩ = some (.int .i64 pb) ∧ wr.drew.cell? ⟨gb, o + i' * 3, none⟩ = some (.int .i64 qd) := S0
            have K0 : Hid (Calls Tryz.prog 50 #[.agg #[.int .i64 us, .int .i64 ep, .int .i64 pb]] wr.drew fun e w' => e = .returned (.bool true) ∧ Hid (Below w.heap.size w w') ∧ w'.cell? ⟨gb, o + i * 3, none⟩ = some (.int .i64 us) ∧ w'.cell? ⟨gb, o + i * 3 + 1, none⟩ = some (.int .i64 ep) ∧ w'.cell? ⟨gb, o + i * 3 + 2, none⟩ = some (.int .i64 pb) ∧ w'.cell? ⟨gb, o + i' * 3, none⟩ = some (.int .i64 qd)) := by
              refine Calls.mono (rfits_any (w := wr.drew) us ep pb) ?_
              rintro e w' ⟨h1, h2'⟩
              have h2 : Below wr.heap.size wr w' := bw_tr (Below.refl _ _).drew h2'
              exact ⟨by rw [h1, hdb], bw_tr (unhide BB) h2, ⟨by rw [h2.cell (lt_of_cell f0)]; exact f0, by rw [h2.cell (lt_of_cell f1)]; exact f1, by rw [h2.cell (lt_of_cell f2)]; exact f2, by rw [h2.cell (lt_of_cell f3)]; exact f3⟩⟩
            clear f0 f1 f2 f3 hdb BB
            go_upto_region 4 with fail
            refine wp_region_held_drew (S := fun w' : World => w'.cell? ⟨gb, o + i * 3, none⟩ = some (.int .i64 us) ∧ w'.cell? ⟨gb, o + i * 3 + 1, none⟩ = some (.int .i64 ep) ∧ w'.cell? ⟨gb, o + i * 3 + 2, none⟩ = some (.int .i64 pb) ∧ w'.cell? ⟨gb, o + i' * 3, none⟩ = some (.int .i64 qd)) (by kernel_rfl) S0 (fun hHeld => ?_)
            refine wpAnyH_take (i := 0) (oi := { dst := some 10, op := Op.move (Operand.tmp 0), type := 56, pos := "ref.go:89", after := #[], guard := none }) (v := ?v0r1) rfl (by kernel_rfl) (by kernel_rfl) (by kernel_rfl) (fun _ _ _ h => h) (Or.inl ⟨by rfl, ?hy0r1⟩) (by exact hHeld) ?_
            case hy0r1 => (intro w hSw; (try dsimp only at hSw); go_simp; try (with_reducible rfl))
            try simp only [Act.put, List.setIfInBounds_toArray, List.set_cons_zero, List.set_cons_succ]
            refine wpAnyH_take (i := 1) (oi := { dst := some 11, op := Op.move (Operand.tmp 3), type := 3, pos := "ref.go:89", after := #[], guard := none }) (v := ?v1r1) rfl (by kernel_rfl) (by kernel_rfl) (by kernel_rfl) (fun _ _ _ h => h) (Or.inl ⟨by rfl, ?hy1r1⟩) (by exact hHeld) ?_
            case hy1r1 => (intro w hSw; (try dsimp only at hSw); go_simp; try (with_reducible rfl))
            try simp only [Act.put, List.setIfInBounds_toArray, List.set_cons_zero, List.set_cons_succ]
            refine wpAnyH_take (i := 2) (oi := { dst := some 12, op := Op.indexAddr 56 (Operand.tmp 10) (Operand.tmp 11), type := 0, pos := "ref.go:89", after := #[{ on := 0, ground := Ground.data }, { on := 1, ground := Ground.data }], guard := none }) (v := ?v2r1) rfl (by kernel_rfl) (by kernel_rfl) (by kernel_rfl) (fun _ _ _ h => h) (Or.inl ⟨by rfl, ?hy2r1⟩) (by exact hHeld) ?_
            case hy2r1 => (intro w hSw; (try dsimp only at hSw); go_simp; try (with_reducible rfl))
            try simp only [Act.put, List.setIfInBounds_toArray, List.set_cons_zero, List.set_cons_succ]
            refine wpAnyH_take (i := 3) (oi := { dst := some 13, op := Op.load 44 (Operand.tmp 12), type := 44, pos := "ref.go:89", after := #[{ on := 2, ground := Ground.data }], guard := none }) (v := ?v3r1) rfl (by kernel_rfl) (by kernel_rfl) (by kernel_rfl) (fun _ _ _ h => h) (Or.inl ⟨by rfl, ?hy3r1⟩) (by exact hHeld) ?_
            case hy3r1 => (intro w hSw; (try dsimp only at hSw); go_simp; try (with_reducible rfl))
            try simp only [Act.put, List.setIfInBounds_toArray, List.set_cons_zero, List.set_cons_succ]
            refine wpAnyH_ready (rs := [4]) (by kernel_rfl) (by simp) ?_
            refine AllReadyH.cons (o := { dst := some 14, op := Op.call { callee := Callee.value (Operand.func 50), args := #[Operand.tmp 13], argTypes := #[44] }, type := 4, pos := "ref.go:89", after := #[{ on := 3, ground := Ground.data }], guard := none }) rfl (fun K hK => ?_) AllReadyH.nil
            go_simp
            go_at_call 50
            refine (unhide K0).mono ?_
            rintro e z1 ⟨rfl, B1, S1⟩
            go_wp2_with fail
            refine hK.out _ _ S1 (fun _ => ?_)
            clear hK K
            try simp only [Act.put, List.setIfInBounds_toArray, List.set_cons_zero, List.set_cons_succ]
            refine wpAnyH_take (i := 5) (oi := { dst := some 15, op := Op.unOp UnOp.not 4 (Operand.tmp 14), type := 4, pos := "ref.go:89", after := #[{ on := 4, ground := Ground.data }], guard := none }) (v := ?v5r1) rfl (by kernel_rfl) (by kernel_rfl) (by kernel_rfl) (fun _ _ _ h => h) (Or.inl ⟨by rfl, ?hy5r1⟩) (by exact S1) ?_
            case hy5r1 => (intro w hSw; (try dsimp only at hSw); go_simp; try (with_reducible rfl))
            try simp only [Act.put, List.setIfInBounds_toArray, List.set_cons_zero, List.set_cons_succ]
            refine wpAnyH_take (i := 6) (oi := { dst := some 16, op := Op.move (Operand.tmp 15), type := 4, pos := "ref.go:89", after := #[{ on := 5, ground := Ground.data }, { on := 4, ground := Ground.chain }], guard := none }) (v := ?v6r1) rfl (by kernel_rfl) (by kernel_rfl) (by kernel_rfl) (fun _ _ _ h => h) (Or.inl ⟨by rfl, ?hy6r1⟩) (by exact S1) ?_
            case hy6r1 => (intro w hSw; (try dsimp only at hSw); go_simp; try (with_reducible rfl))
            try simp only [Act.put, List.setIfInBounds_toArray, List.set_cons_zero, List.set_cons_succ]
            refine wpAnyH_take (i := 7) (oi := { dst := some 17, op := Op.move (Operand.tmp 3), type := 3, pos := "ref.go:89", after := #[{ on := 6, ground := Ground.guard }], guard := some (6, false) }) (v := ?v7r1) rfl (by kernel_rfl) (by kernel_rfl) (by kernel_rfl) (fun _ _ _ h => h) (Or.inl ⟨by rfl, ?hy7r1⟩) (by exact S1) ?_
            case hy7r1 => (intro w hSw; (try dsimp only at hSw); go_simp; try (with_reducible rfl))
            try simp only [Act.put, List.setIfInBounds_toArray, List.set_cons_zero, List.set_cons_succ]
            refine wpAnyH_take (i := 8) (oi := { dst := some 18, op := Op.binOp BinOp.gtr 3 (Operand.tmp 17) (Operand.const (Value.int IntKind.i64 0)) 3, type := 4, pos := "ref.go:89", after := #[{ on := 7, ground := Ground.data }, { on := 6, ground := Ground.guard }], guard := some (6, false) }) (v := ?v8r1) rfl (by kernel_rfl) (by kernel_rfl) (by kernel_rfl) (fun _ _ _ h => h) (Or.inl ⟨by rfl, ?hy8r1⟩) (by exact S1) ?_
            case hy8r1 => (intro w hSw; (try dsimp only at hSw); go_simp; try (with_reducible rfl))
            try simp only [Act.put, List.setIfInBounds_toArray, List.set_cons_zero, List.set_cons_succ]
            refine wpAnyH_take (i := 9) (oi := { dst := some 19, op := Op.move (Operand.tmp 18), type := 4, pos := "ref.go:89", after := #[{ on := 8, ground := Ground.data }, { on := 6, ground := Ground.chain }, { on := 6, ground := Ground.guard }], guard := some (6, false) }) (v := ?v9r1) rfl (by kernel_rfl) (by kernel_rfl) (by kernel_rfl) (fun _ _ _ h => h) (Or.inl ⟨by rfl, ?hy9r1⟩) (by exact S1) ?_
            case hy9r1 => (intro w hSw; (try dsimp only at hSw); go_simp; try (with_reducible rfl))
            try simp only [Act.put, List.setIfInBounds_toArray, List.set_cons_zero, List.set_cons_succ]
            refine wpAnyH_take (i := 10) (oi := { dst := some 20, op := Op.move (Operand.tmp 0), type := 56, pos := "ref.go:89", after := #[{ on := 9, ground := Ground.guard }], guard := some (9, true) }) (v := ?v10r1) rfl (by kernel_rfl) (by kernel_rfl) (by kernel_rfl) (fun _ _ _ h => h) (Or.inl ⟨by rfl, ?hy10r1⟩) (by exact S1) ?_
            case hy10r1 => (intro w hSw; (try dsimp only at hSw); go_simp; try (with_reducible rfl))
            try simp only [Act.put, List.setIfInBounds_toArray, List.set_cons_zero, List.set_cons_succ]
            refine wpAnyH_take (i := 11) (oi := { dst := some 21, op := Op.move (Operand.tmp 3), type := 3, pos := "ref.go:89", after := #[{ on := 9, ground := Ground.guard }], guard := some (9, true) }) (v := ?v11r1) rfl (by kernel_rfl) (by kernel_rfl) (by kernel_rfl) (fun _ _ _ h => h) (Or.inl ⟨by rfl, ?hy11r1⟩) (by exact S1) ?_
            case hy11r1 => (intro w hSw; (try dsimp only at hSw); go_simp; try (with_reducible rfl))
            try simp only [Act.put, List.setIfInBounds_toArray, List.set_cons_zero, List.set_cons_succ]
            refine wpAnyH_take (i := 12) (oi := { dst := some 22, op := Op.indexAddr 56 (Operand.tmp 20) (Operand.tmp 21), type := 0, pos := "ref.go:89", after := #[{ on := 10, ground := Ground.data }, { on := 11, ground := Ground.data }, { on := 9, ground := Ground.guard }], guard := some (9, true) }) (v := ?v12r1) rfl (by kernel_rfl) (by kernel_rfl) (by kernel_rfl) (fun _ _ _ h => h) (Or.inl ⟨by rfl, ?hy12r1⟩) (by exact S1) ?_
            case hy12r1 => (intro w hSw; (try dsimp only at hSw); go_simp; try (with_reducible rfl))
            try simp only [Act.put, List.setIfInBounds_toArray, List.set_cons_zero, List.set_cons_succ]
            refine wpAnyH_take (i := 13) (oi := { dst := some 23, op := Op.fieldAddr 44 (Operand.tmp 22) 0, type := 0, pos := "ref.go:89", after := #[{ on := 12, ground := Ground.data }, { on := 9, ground := Ground.guard }], guard := some (9, true) }) (v := ?v13r1) rfl (by kernel_rfl) (by kernel_rfl) (by kernel_rfl) (fun _ _ _ h => h) (Or.inl ⟨by rfl, ?hy13r1⟩) (by exact S1) ?_
            case hy13r1 => (intro w hSw; (try dsimp only at hSw); go_simp; try (with_reducible rfl))
            try simp only [Act.put, List.setIfInBounds_toArray, List.set_cons_zero, List.set_cons_succ]
            refine wpAnyH_take (i := 14) (oi := { dst := some 24, op := Op.load 3 (Operand.tmp 23), type := 3, pos := "ref.go:89", after := #[{ on := 13, ground := Ground.data }, { on := 9, ground := Ground.guard }], guard := some (9, true) }) (v := ?v14r1) rfl (by kernel_rfl) (by kernel_rfl) (by kernel_rfl) (fun _ _ _ h => h) (Or.inl ⟨by rfl, ?hy14r1⟩) (by exact S1) ?_
            case hy14r1 => (intro w hSw; (try dsimp only at hSw); go_simp; try (with_reducible rfl))
            try simp only [Act.put, List.setIfInBounds_toArray, List.set_cons_zero, List.set_cons_succ]
            refine wpAnyH_take (i := 15) (oi := { dst := some 25, op := Op.move (Operand.tmp 0), type := 56, pos := "ref.go:89", after := #[{ on := 9, ground := Ground.guard }], guard := some (9, true) }) (v := ?v15r1) rfl (by kernel_rfl) (by kernel_rfl) (by kernel_rfl) (fun _ _ _ h => h) (Or.inl ⟨by rfl, ?hy15r1⟩) (by exact S1) ?_
            case hy15r1 => (intro w hSw; (try dsimp only at hSw); go_simp; try (with_reducible rfl))
            try simp only [Act.put, List.setIfInBounds_toArray, List.set_cons_zero, List.set_cons_succ]
            refine wpAnyH_take (i := 16) (oi := { dst := some 26, op := Op.move (Operand.tmp 3), type := 3, pos := "ref.go:89", after := #[{ on := 9, ground := Ground.guard }], guard := some (9, true) }) (v := ?v16r1) rfl (by kernel_rfl) (by kernel_rfl) (by kernel_rfl) (fun _ _ _ h => h) (Or.inl ⟨by rfl, ?hy16r1⟩) (by exact S1) ?_
            case hy16r1 => (intro w hSw; (try dsimp only at hSw); go_simp; try (with_reducible rfl))
            try simp only [Act.put, List.setIfInBounds_toArray, List.set_cons_zero, List.set_cons_succ]
            refine wpAnyH_take (i := 17) (oi := { dst := some 27, op := Op.binOp BinOp.sub 3 (Operand.tmp 26) (Operand.const (Value.int IntKind.i64 1)) 3, type := 3, pos := "ref.go:89", after := #[{ on := 16, ground := Ground.data }, { on := 9, ground := Ground.guard }], guard := some (9, true) }) (v := ?v17r1) rfl (by kernel_rfl) (by kernel_rfl) (by kernel_rfl) (fun _ _ _ h => h) (Or.inl ⟨by rfl, ?hy17r1⟩) (by exact S1) ?_
            case hy17r1 => (intro w hSw; (try dsimp only at hSw); go_simp; try (with_reducible rfl))
            try simp only [Act.put, List.setIfInBounds_toArray, List.set_cons_zero, List.set_cons_succ]
            refine wpAnyH_take (i := 18) (oi := { dst := some 28, op := Op.indexAddr 56 (Operand.tmp 25) (Operand.tmp 27), type := 0, pos := "ref.go:89", after := #[{ on := 15, ground := Ground.data }, { on := 17, ground := Ground.data }, { on := 9, ground := Ground.guard }], guard := some (9, true) }) (v := ?v18r1) rfl (by kernel_rfl) (by kernel_rfl) (by kernel_rfl) (fun _ _ _ h => h) (Or.inl ⟨by rfl, ?hy18r1⟩) (by exact S1) ?_
            case hy18r1 => (intro w hSw; (try dsimp only at hSw); go_simp; try (with_reducible rfl))
            try simp only [Act.put, List.setIfInBounds_toArray, List.set_cons_zero, List.set_cons_succ]
            refine wpAnyH_take (i := 19) (oi := { dst := some 29, op := Op.fieldAddr 44 (Operand.tmp 28) 0, type := 0, pos := "ref.go:89", after := #[{ on := 18, ground := Ground.data }, { on := 9, ground := Ground.guard }], guard := some (9, true) }) (v := ?v19r1) rfl (by kernel_rfl) (by kernel_rfl) (by kernel_rfl) (fun _ _ _ h => h) (Or.inl ⟨by rfl, ?hy19r1⟩) (by exact S1) ?_
            case hy19r1 => (intro w hSw; (try dsimp only at hSw); go_simp; try (with_reducible rfl))
            try simp only [Act.put, List.setIfInBounds_toArray, List.set_cons_zero, List.set_cons_succ]
            refine wpAnyH_take (i := 20) (oi := { dst := some 30, op := Op.load 3 (Operand.tmp 29), type := 3, pos := "ref.go:89", after := #[{ on := 19, ground := Ground.data }, { on := 9, ground := Ground.guard }], guard := some (9, true) }) (v := ?v20r1) rfl (by kernel_rfl) (by kernel_rfl) (by kernel_rfl) (fun _ _ _ h => h) (Or.inl ⟨by rfl, ?hy20r1⟩) (by exact S1) ?_
            case hy20r1 => (intro w hSw; (try dsimp only at hSw); go_simp; try (with_reducible rfl))
            try simp only [Act.put, List.setIfInBounds_toArray, List.set_cons_zero, List.set_cons_succ]
            refine wpAnyH_take (i := 21) (oi := { dst := some 31, op := Op.binOp BinOp.leq 3 (Operand.tmp 24) (Operand.tmp 30) 3, type := 4, pos := "ref.go:89", after := #[{ on := 14, ground := Ground.data }, { on := 20, ground := Ground.data }, { on := 9, ground := Ground.guard }], guard := some (9, true) }) (v := ?v21r1) rfl (by kernel_rfl) (by kernel_rfl) (by kernel_rfl) (fun _ _ _ h => h) (Or.inl ⟨by rfl, ?hy21r1⟩) (by exact S1) ?_
            case hy21r1 => (intro w hSw; (try dsimp only at hSw); go_simp; try (with_reducible rfl))
            try simp only [Act.put, List.setIfInBounds_toArray, List.set_cons_zero, List.set_cons_succ]
            refine wpAnyH_take (i := 22) (oi := { dst := some 32, op := Op.pick (Operand.tmp 19) (Operand.tmp 31) (Operand.const (Value.bool false)), type := 4, pos := "ref.go:89", after := #[{ on := 9, ground := Ground.data }, { on := 21, ground := Ground.data }, { on := 6, ground := Ground.guard }], guard := some (6, false) }) (v := ?v22r1) rfl (by kernel_rfl) (by kernel_rfl) (by kernel_rfl) (fun _ _ _ h => h) (Or.inl ⟨by rfl, ?hy22r1⟩) (by exact S1) ?_
            case hy22r1 => (intro w hSw; (try dsimp only at hSw); go_simp; try (with_reducible rfl))
            try simp only [Act.put, List.setIfInBounds_toArray, List.set_cons_zero, List.set_cons_succ]
            refine wpAnyH_take (i := 23) (oi := { dst := some 33, op := Op.pick (Operand.tmp 16) (Operand.const (Value.bool true)) (Operand.tmp 32), type := 4, pos := "ref.go:89", after := #[{ on := 6, ground := Ground.data }, { on := 22, ground := Ground.data }], guard := none }) (v := ?v23r1) rfl (by kernel_rfl) (by kernel_rfl) (by kernel_rfl) (fun _ _ _ h => h) (Or.inl ⟨by rfl, ?hy23r1⟩) (by exact S1) ?_
            case hy23r1 => (intro w hSw; (try dsimp only at hSw); go_simp; try (with_reducible rfl))
            try simp only [Act.put, List.setIfInBounds_toArray, List.set_cons_zero, List.set_cons_succ]
            refine wpAnyH_done (by kernel_rfl) ?_ _
            clear S0 S00 S1 K0
            go_wp2_with fail
            go_ret
            exact ⟨by rw [unhide HR1]; rfl, unhide B1⟩
          · have hdb : decide (0 ≤ us ∧ us < 64 ∧ 0 ≤ ep ∧ 0 < pb) = false := decide_eq_false hdv
            clear h hN hr hp d0 d1 d2 hus hep hpb HOK HR HB hi0 hq hqd hi' d3 hqp hdv
            have S0 : wr.cell? ⟨gb, o + i * 3, none⟩ = some (.int .i64 us) ∧ wr.cell? ⟨gb, o + i * 3 + 1, none⟩ = some (.int .i64 ep) ∧ wr.cell? ⟨gb, o + i * 3 + 2, none⟩ = some (.int .i64 pb) ∧ wr.cell? ⟨gb, o + i' * 3, none⟩ = some (.int .i64 qd) := ⟨f0, f1, f2, f3⟩
            have S00 : wr.drew.cell? ⟨gb, o + i * 3, none⟩ = some (.int .i64 us) ∧ wr.drew.cell? ⟨gb, o + i * 3 + 1, none⟩ = some (.int .i64 ep) ∧ wr.drew.cell? ⟨gb, o + i * 3 + 2, none⟩ = some (.int .i64 pb) ∧ wr.drew.cell? ⟨gb, o + i' * 3, none⟩ = some (.int .i64 qd) := S0
            have K0 : Hid (Calls Tryz.prog 50 #[.agg #[.int .i64 us, .int .i64 ep, .int .i64 pb]] wr.drew fun e w' => e = .returned (.bool false) ∧ Hid (Below w.heap.size w w') ∧ w'.cell? ⟨gb, o + i * 3, none⟩ = some (.int .i64 us) ∧ w'.cell? ⟨gb, o + i * 3 + 1, none⟩ = some (.int .i64 ep) ∧ w'.cell? ⟨gb, o + i * 3 + 2, none⟩ = some (.int .i64 pb) ∧ w'.cell? ⟨gb, o + i' * 3, none⟩ = some (.int .i64 qd)) := by
              refine Calls.mono (rfits_any (w := wr.drew) us ep pb) ?_
              rintro e w' ⟨h1, h2'⟩
              have h2 : Below wr.heap.size wr w' := bw_tr (Below.refl _ _).drew h2'
              exact ⟨by rw [h1, hdb], bw_tr (unhide BB) h2, ⟨by rw [h2.cell (lt_of_cell f0)]; exact f0, by rw [h2.cell (lt_of_cell f1)]; exact f1, by rw [h2.cell (lt_of_cell f2)]; exact f2, by rw [h2.cell (lt_of_cell f3)]; exact f3⟩⟩
            clear f0 f1 f2 f3 hdb BB
            go_upto_region 4 with fail
            refine wp_region_held_drew (S := fun w' : World => w'.cell? ⟨gb, o + i * 3, none⟩ = some (.int .i64 us) ∧ w'.cell? ⟨gb, o + i * 3 + 1, none⟩ = some (.int .i64 ep) ∧ w'.cell? ⟨gb, o + i * 3 + 2, none⟩ = some (.int .i64 pb) ∧ w'.cell? ⟨gb, o + i' * 3, none⟩ = some (.int .i64 qd)) (by kernel_rfl) S0 (fun hHeld => ?_)
            refine wpAnyH_take (i := 0) (oi := { dst := some 10, op := Op.move (Operand.tmp 0), type := 56, pos := "ref.go:89", after := #[], guard := none }) (v := ?v0r2) rfl (by kernel_rfl) (by kernel_rfl) (by kernel_rfl) (fun _ _ _ h => h) (Or.inl ⟨by rfl, ?hy0r2⟩) (by exact hHeld) ?_
            case hy0r2 => (intro w hSw; (try dsimp only at hSw); go_simp; try (with_reducible rfl))
            try simp only [Act.put, List.setIfInBounds_toArray, List.set_cons_zero, List.set_cons_succ]
            refine wpAnyH_take (i := 1) (oi := { dst := some 11, op := Op.move (Operand.tmp 3), type := 3, pos := "ref.go:89", after := #[], guard := none }) (v := ?v1r2) rfl (by kernel_rfl) (by kernel_rfl) (by kernel_rfl) (fun _ _ _ h => h) (Or.inl ⟨by rfl, ?hy1r2⟩) (by exact hHeld) ?_
            case hy1r2 => (intro w hSw; (try dsimp only at hSw); go_simp; try (with_reducible rfl))
            try simp only [Act.put, List.setIfInBounds_toArray, List.set_cons_zero, List.set_cons_succ]
            refine wpAnyH_take (i := 2) (oi := { dst := some 12, op := Op.indexAddr 56 (Operand.tmp 10) (Operand.tmp 11), type := 0, pos := "ref.go:89", after := #[{ on := 0, ground := Ground.data }, { on := 1, ground := Ground.data }], guard := none }) (v := ?v2r2) rfl (by kernel_rfl) (by kernel_rfl) (by kernel_rfl) (fun _ _ _ h => h) (Or.inl ⟨by rfl, ?hy2r2⟩) (by exact hHeld) ?_
            case hy2r2 => (intro w hSw; (try dsimp only at hSw); go_simp; try (with_reducible rfl))
            try simp only [Act.put, List.setIfInBounds_toArray, List.set_cons_zero, List.set_cons_succ]
            refine wpAnyH_take (i := 3) (oi := { dst := some 13, op := Op.load 44 (Operand.tmp 12), type := 44, pos := "ref.go:89", after := #[{ on := 2, ground := Ground.data }], guard := none }) (v := ?v3r2) rfl (by kernel_rfl) (by kernel_rfl) (by kernel_rfl) (fun _ _ _ h => h) (Or.inl ⟨by rfl, ?hy3r2⟩) (by exact hHeld) ?_
            case hy3r2 => (intro w hSw; (try dsimp only at hSw); go_simp; try (with_reducible rfl))
            try simp only [Act.put, List.setIfInBounds_toArray, List.set_cons_zero, List.set_cons_succ]
            refine wpAnyH_ready (rs := [4]) (by kernel_rfl) (by simp) ?_
            refine AllReadyH.cons (o := { dst := some 14, op := Op.call { callee := Callee.value (Operand.func 50), args := #[Operand.tmp 13], argTypes := #[44] }, type := 4, pos := "ref.go:89", after := #[{ on := 3, ground := Ground.data }], guard := none }) rfl (fun K hK => ?_) AllReadyH.nil
            go_simp
            go_at_call 50
            refine (unhide K0).mono ?_
            rintro e z1 ⟨rfl, B1, S1⟩
            go_wp2_with fail
            refine hK.out _ _ S1 (fun _ => ?_)
            clear hK K
            try simp only [Act.put, List.setIfInBounds_toArray, List.set_cons_zero, List.set_cons_succ]
            refine wpAnyH_take (i := 5) (oi := { dst := some 15, op := Op.unOp UnOp.not 4 (Operand.tmp 14), type := 4, pos := "ref.go:89", after := #[{ on := 4, ground := Ground.data }], guard := none }) (v := ?v5r2) rfl (by kernel_rfl) (by kernel_rfl) (by kernel_rfl) (fun _ _ _ h => h) (Or.inl ⟨by rfl, ?hy5r2⟩) (by exact S1) ?_
            case hy5r2 => (intro w hSw; (try dsimp only at hSw); go_simp; try (with_reducible rfl))
            try simp only [Act.put, List.setIfInBounds_toArray, List.set_cons_zero, List.set_cons_succ]
            refine wpAnyH_take (i := 6) (oi := { dst := some 16, op := Op.move (Operand.tmp 15), type := 4, pos := "ref.go:89", after := #[{ on := 5, ground := Ground.data }, { on := 4, ground := Ground.chain }], guard := none }) (v := ?v6r2) rfl (by kernel_rfl) (by kernel_rfl) (by kernel_rfl) (fun _ _ _ h => h) (Or.inl ⟨by rfl, ?hy6r2⟩) (by exact S1) ?_
            case hy6r2 => (intro w hSw; (try dsimp only at hSw); go_simp; try (with_reducible rfl))
            try simp only [Act.put, List.setIfInBounds_toArray, List.set_cons_zero, List.set_cons_succ]
            refine wpAnyH_take (i := 7) (oi := { dst := some 17, op := Op.move (Operand.tmp 3), type := 3, pos := "ref.go:89", after := #[{ on := 6, ground := Ground.guard }], guard := some (6, false) }) (v := undef) rfl (by kernel_rfl) (by kernel_rfl) (by kernel_rfl) (fun _ _ _ h => h) (Or.inr ⟨by rfl, rfl⟩) (by exact S1) ?_
            try simp only [Act.put, List.setIfInBounds_toArray, List.set_cons_zero, List.set_cons_succ]
            refine wpAnyH_take (i := 8) (oi := { dst := some 18, op := Op.binOp BinOp.gtr 3 (Operand.tmp 17) (Operand.const (Value.int IntKind.i64 0)) 3, type := 4, pos := "ref.go:89", after := #[{ on := 7, ground := Ground.data }, { on := 6, ground := Ground.guard }], guard := some (6, false) }) (v := undef) rfl (by kernel_rfl) (by kernel_rfl) (by kernel_rfl) (fun _ _ _ h => h) (Or.inr ⟨by rfl, rfl⟩) (by exact S1) ?_
            try simp only [Act.put, List.setIfInBounds_toArray, List.set_cons_zero, List.set_cons_succ]
            refine wpAnyH_take (i := 9) (oi := { dst := some 19, op := Op.move (Operand.tmp 18), type := 4, pos := "ref.go:89", after := #[{ on := 8, ground := Ground.data }, { on := 6, ground := Ground.chain }, { on := 6, ground := Ground.guard }], guard := some (6, false) }) (v := undef) rfl (by kernel_rfl) (by kernel_rfl) (by kernel_rfl) (fun _ _ _ h => h) (Or.inr ⟨by rfl, rfl⟩) (by exact S1) ?_
            try simp only [Act.put, List.setIfInBounds_toArray, List.set_cons_zero, List.set_cons_succ]
            refine wpAnyH_take (i := 10) (oi := { dst := some 20, op := Op.move (Operand.tmp 0), type := 56, pos := "ref.go:89", after := #[{ on := 9, ground := Ground.guard }], guard := some (9, true) }) (v := undef) rfl (by kernel_rfl) (by kernel_rfl) (by kernel_rfl) (fun _ _ _ h => h) (Or.inr ⟨by rfl, rfl⟩) (by exact S1) ?_
            try simp only [Act.put, List.setIfInBounds_toArray, List.set_cons_zero, List.set_cons_succ]
            refine wpAnyH_take (i := 11) (oi := { dst := some 21, op := Op.move (Operand.tmp 3), type := 3, pos := "ref.go:89", after := #[{ on := 9, ground := Ground.guard }], guard := some (9, true) }) (v := undef) rfl (by kernel_rfl) (by kernel_rfl) (by kernel_rfl) (fun _ _ _ h => h) (Or.inr ⟨by rfl, rfl⟩) (by exact S1) ?_
            try simp only [Act.put, List.setIfInBounds_toArray, List.set_cons_zero, List.set_cons_succ]
            refine wpAnyH_take (i := 12) (oi := { dst := some 22, op := Op.indexAddr 56 (Operand.tmp 20) (Operand.tmp 21), type := 0, pos := "ref.go:89", after := #[{ on := 10, ground := Ground.data }, { on := 11, ground := Ground.data }, { on := 9, ground := Ground.guard }], guard := some (9, true) }) (v := undef) rfl (by kernel_rfl) (by kernel_rfl) (by kernel_rfl) (fun _ _ _ h => h) (Or.inr ⟨by rfl, rfl⟩) (by exact S1) ?_
            try simp only [Act.put, List.setIfInBounds_toArray, List.set_cons_zero, List.set_cons_succ]
            refine wpAnyH_take (i := 13) (oi := { dst := some 23, op := Op.fieldAddr 44 (Operand.tmp 22) 0, type := 0, pos := "ref.go:89", after := #[{ on := 12, ground := Ground.data }, { on := 9, ground := Ground.guard }], guard := some (9, true) }) (v := undef) rfl (by kernel_rfl) (by kernel_rfl) (by kernel_rfl) (fun _ _ _ h => h) (Or.inr ⟨by rfl, rfl⟩) (by exact S1) ?_
            try simp only [Act.put, List.setIfInBounds_toArray, List.set_cons_zero, List.set_cons_succ]
            refine wpAnyH_take (i := 14) (oi := { dst := some 24, op := Op.load 3 (Operand.tmp 23), type := 3, pos := "ref.go:89", after := #[{ on := 13, ground := Ground.data }, { on := 9, ground := Ground.guard }], guard := some (9, true) }) (v := undef) rfl (by kernel_rfl) (by kernel_rfl) (by kernel_rfl) (fun _ _ _ h => h) (Or.inr ⟨by rfl, rfl⟩) (by exact S1) ?_
            try simp only [Act.put, List.setIfInBounds_toArray, List.set_cons_zero, List.set_cons_succ]
            refine wpAnyH_take (i := 15) (oi := { dst := some 25, op := Op.move (Operand.tmp 0), type := 56, pos := "ref.go:89", after := #[{ on := 9, ground := Ground.guard }], guard := some (9, true) }) (v := undef) rfl (by kernel_rfl) (by kernel_rfl) (by kernel_rfl) (fun _ _ _ h => h) (Or.inr ⟨by rfl, rfl⟩) (by exact S1) ?_
            try simp only [Act.put, List.setIfInBounds_toArray, List.set_cons_zero, List.set_cons_succ]
            refine wpAnyH_take (i := 16) (oi := { dst := some 26, op := Op.move (Operand.tmp 3), type := 3, pos := "ref.go:89", after := #[{ on := 9, ground := Ground.guard }], guard := some (9, true) }) (v := undef) rfl (by kernel_rfl) (by kernel_rfl) (by kernel_rfl) (fun _ _ _ h => h) (Or.inr ⟨by rfl, rfl⟩) (by exact S1) ?_
            try simp only [Act.put, List.setIfInBounds_toArray, List.set_cons_zero, List.set_cons_succ]
            refine wpAnyH_take (i := 17) (oi := { dst := some 27, op := Op.binOp BinOp.sub 3 (Operand.tmp 26) (Operand.const (Value.int IntKind.i64 1)) 3, type := 3, pos := "ref.go:89", after := #[{ on := 16, ground := Ground.data }, { on := 9, ground := Ground.guard }], guard := some (9, true) }) (v := undef) rfl (by kernel_rfl) (by kernel_rfl) (by kernel_rfl) (fun _ _ _ h => h) (Or.inr ⟨by rfl, rfl⟩) (by exact S1) ?_
            try simp only [Act.put, List.setIfInBounds_toArray, List.set_cons_zero, List.set_cons_succ]
            refine wpAnyH_take (i := 18) (oi := { dst := some 28, op := Op.indexAddr 56 (Operand.tmp 25) (Operand.tmp 27), type := 0, pos := "ref.go:89", after := #[{ on := 15, ground := Ground.data }, { on := 17, ground := Ground.data }, { on := 9, ground := Ground.guard }], guard := some (9, true) }) (v := undef) rfl (by kernel_rfl) (by kernel_rfl) (by kernel_rfl) (fun _ _ _ h => h) (Or.inr ⟨by rfl, rfl⟩) (by exact S1) ?_
            try simp only [Act.put, List.setIfInBounds_toArray, List.set_cons_zero, List.set_cons_succ]
            refine wpAnyH_take (i := 19) (oi := { dst := some 29, op := Op.fieldAddr 44 (Operand.tmp 28) 0, type := 0, pos := "ref.go:89", after := #[{ on := 18, ground := Ground.data }, { on := 9, ground := Ground.guard }], guard := some (9, true) }) (v := undef) rfl (by kernel_rfl) (by kernel_rfl) (by kernel_rfl) (fun _ _ _ h => h) (Or.inr ⟨by rfl, rfl⟩) (by exact S1) ?_
            try simp only [Act.put, List.setIfInBounds_toArray, List.set_cons_zero, List.set_cons_succ]
            refine wpAnyH_take (i := 20) (oi := { dst := some 30, op := Op.load 3 (Operand.tmp 29), type := 3, pos := "ref.go:89", after := #[{ on := 19, ground := Ground.data }, { on := 9, ground := Ground.guard }], guard := some (9, true) }) (v := undef) rfl (by kernel_rfl) (by kernel_rfl) (by kernel_rfl) (fun _ _ _ h => h) (Or.inr ⟨by rfl, rfl⟩) (by exact S1) ?_
            try simp only [Act.put, List.setIfInBounds_toArray, List.set_cons_zero, List.set_cons_succ]
            refine wpAnyH_take (i := 21) (oi := { dst := some 31, op := Op.binOp BinOp.leq 3 (Operand.tmp 24) (Operand.tmp 30) 3, type := 4, pos := "ref.go:89", after := #[{ on := 14, ground := Ground.data }, { on := 20, ground := Ground.data }, { on := 9, ground := Ground.guard }], guard := some (9, true) }) (v := undef) rfl (by kernel_rfl) (by kernel_rfl) (by kernel_rfl) (fun _ _ _ h => h) (Or.inr ⟨by rfl, rfl⟩) (by exact S1) ?_
            try simp only [Act.put, List.setIfInBounds_toArray, List.set_cons_zero, List.set_cons_succ]
            refine wpAnyH_take (i := 22) (oi := { dst := some 32, op := Op.pick (Operand.tmp 19) (Operand.tmp 31) (Operand.const (Value.bool false)), type := 4, pos := "ref.go:89", after := #[{ on := 9, ground := Ground.data }, { on := 21, ground := Ground.data }, { on := 6, ground := Ground.guard }], guard := some (6, false) }) (v := undef) rfl (by kernel_rfl) (by kernel_rfl) (by kernel_rfl) (fun _ _ _ h => h) (Or.inr ⟨by rfl, rfl⟩) (by exact S1) ?_
            try simp only [Act.put, List.setIfInBounds_toArray, List.set_cons_zero, List.set_cons_succ]
            refine wpAnyH_take (i := 23) (oi := { dst := some 33, op := Op.pick (Operand.tmp 16) (Operand.const (Value.bool true)) (Operand.tmp 32), type := 4, pos := "ref.go:89", after := #[{ on := 6, ground := Ground.data }, { on := 22, ground := Ground.data }], guard := none }) (v := ?v23r2) rfl (by kernel_rfl) (by kernel_rfl) (by kernel_rfl) (fun _ _ _ h => h) (Or.inl ⟨by rfl, ?hy23r2⟩) (by exact S1) ?_
            case hy23r2 => (intro w hSw; (try dsimp only at hSw); go_simp; try (with_reducible rfl))
            try simp only [Act.put, List.setIfInBounds_toArray, List.set_cons_zero, List.set_cons_succ]
            refine wpAnyH_done (by kernel_rfl) ?_ _
            clear S0 S00 S1 K0
            go_wp2_with fail
            go_ret
            exact ⟨by rw [unhide HR1]; rfl, unhide B1⟩
    · obtain rfl : i = N := by omega
      have HR1 := hide (unhide HE (unhide HR).2)
      have BB := hide (unhide HR).1
      clear HE HB HR HH
      go_wp2_with fail
      go_ret
      exact ⟨by rw [unhide HR1]; rfl, unhide BB⟩
end Go.Proofs.YtihniafidgjlcaaGreatDoor.Cd
