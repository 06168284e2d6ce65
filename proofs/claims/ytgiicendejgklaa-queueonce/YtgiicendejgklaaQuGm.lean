/- May links be (mayBe); Check. mkQuG.py writes it. -/
import Derived.Test.YtgiicendejgklaaQuGe
import Derived.Deep.RegionHeld3
namespace Go.Proofs.Ytgiicendejgklaa
open Go.RowKit Go.Maps
def okK (l : List Lk) (j : Nat) : Prop := ∀ k, l[j]? = some k → ((0 ≤ k.pe ∧ k.pe < 4) ∧ SendP k ∧ ExpP k) ∧ ∀ (q : Lk) i, j = i + 1 → l[i]? = some q → q.pe < k.pe
def okLs (l : List Lk) : Prop := ∀ j, okK l j
theorem ex_bool (p : Prop) : ∃ b : Bool, b = true ↔ p := by
  by_cases h : p
  · exact ⟨true, ⟨fun _ => h, fun _ => rfl⟩⟩
  · exact ⟨false, ⟨fun q => (by cases q), fun q => absurd q h⟩⟩
set_option maxRecDepth 100000 in
set_option maxHeartbeats 16000000 in
theorem mayBeL_any {w : World} {v : Value} {l : List Lk} {xs : List Lx} (h : RdL kLk w v l xs) (hl : l.length ≤ 1073741824) {r : Bool} (hr : r = true ↔ okLs l) :
    Calls Try.prog 22 #[v] w fun e w' => e = .returned (.bool r) ∧ Below w.heap.size w w' := by
  obtain ⟨a, cap, rfl⟩ := rdl_slice h
  obtain ⟨N, hN⟩ : ∃ N, N = l.length := ⟨_, rfl⟩
  rw [← hN] at h hl ⊢
  have hNI : (N : Int) ≤ 1073741824 := by omega
  have HH := hide (And.intro h (And.intro hN hr))
  have HE : Hid ((∀ j, j < N → okK l j) → r = true) := fun q => by
    refine hr.2 (fun j => ?_)
    rcases Nat.lt_or_ge j N with c | c
    · exact q j c
    · intro b hb; rw [List.getElem?_eq_none (by omega)] at hb; cases hb
  have HB : Hid (∀ j, j < N → ¬ okK l j → r = false) := fun j hj q => false_iff hr (fun c => q (c j))
  clear h hN hl hr
  go_enter Try.func22, Try.ntmps22
  go_wp2_with fail
  go_loopw [7] (fun iv wr => ∃ i : Nat, i ≤ N ∧ iv = .int .i64 (i : Int) ∧ Hid (Below w.heap.size w wr ∧ ∀ j, j < i → okK l j)) (fun iv _ => (N - intOf iv).toNat)
  case atStart => exact ⟨0, Nat.zero_le _, rfl, Below.refl _ _, fun j hj => absurd hj (by omega)⟩
  case round =>
    obtain ⟨i, hi, rfl, HR⟩ := hrel
    by_cases hlt : i < N
    · have hiI : (i : Int) < (N : Int) := by omega
      have h0 : (0 : Int) ≤ (i : Int) := by omega
      obtain ⟨h, hN, hr⟩ := unhide HH
      obtain ⟨p, hp⟩ : ∃ p, l[i]? = some p := ⟨_, List.getElem?_eq_getElem (by omega)⟩
      obtain ⟨gb, o, x, rfl, hx, hR, hc⟩ := h.get hp
      obtain ⟨bs, hbs⟩ := ex_bool (SendP p)
      obtain ⟨be, hbe⟩ := ex_bool (ExpP p)
      have KS1 : Hid (∀ W, Hid (Below w.heap.size w W) → Calls Try.prog 34 #[.agg (lkC p x.qv x.ev).toArray] W fun e w' => e = .returned (.bool bs) ∧ Below W.heap.size W w') := fun W hW => send_any (hR.1.bw (unhide hW)) hR.2.qn hbs
      have KE1 : Hid (∀ W, Hid (Below w.heap.size w W) → Calls Try.prog 35 #[.agg (lkC p x.qv x.ev).toArray] W fun e w' => e = .returned (.bool be) ∧ Below W.heap.size W w') := fun W hW => expect_any (hR.1.bw (unhide hW)) hR.2.en hbe
      obtain ⟨aq, cq, hqs⟩ := rdl_slice hR.1.q
      obtain ⟨ae, ce, hes⟩ := rdl_slice hR.1.e
      obtain ⟨NQ, hNQ⟩ : ∃ z, z = p.q.length := ⟨_, rfl⟩
      obtain ⟨NE, hNE⟩ : ∃ z, z = p.ea.length := ⟨_, rfl⟩
      obtain ⟨pe, hpe⟩ : ∃ z, z = p.pe := ⟨_, rfl⟩
      obtain ⟨nx, hnx⟩ : ∃ z, z = p.nx := ⟨_, rfl⟩
      obtain ⟨exn, hex⟩ : ∃ z, z = p.ex := ⟨_, rfl⟩
      have hlk : lkC p x.qv x.ev = [.int .i64 pe, .int .i64 nx, .slice aq NQ cq, .int .i64 exn, .slice ae NE ce] := by unfold lkC; rw [hqs, hes, hNQ, hNE, hpe, hnx, hex]
      rw [hlk] at KS1 KE1
      have hc2 : ∀ j u, ([.int .i64 pe, .int .i64 nx, .slice aq NQ cq, .int .i64 exn, .slice ae NE ce] : List Value)[j]? = some u → wr.cell? ⟨gb, o + i * 5 + j, none⟩ = some u := fun j u hj => by
        have := hc j u (by show (lkC p x.qv x.ev)[j]? = some u; rw [hlk]; exact hj)
        have e5 : w.cell? ⟨gb, o + i * 5 + j, none⟩ = some u := this
        rw [(unhide HR).1.cell (lt_of_cell e5)]; exact e5
      have f0 : wr.cell? ⟨gb, o + i * 5, none⟩ = some (.int .i64 pe) := hc2 0 _ rfl
      have f1 : wr.cell? ⟨gb, o + i * 5 + 1, none⟩ = some (.int .i64 nx) := hc2 1 _ rfl
      have f2 : wr.cell? ⟨gb, o + i * 5 + 2, none⟩ = some (.slice aq NQ cq) := hc2 2 _ rfl
      have f3 : wr.cell? ⟨gb, o + i * 5 + 3, none⟩ = some (.int .i64 exn) := hc2 3 _ rfl
      have f4 : wr.cell? ⟨gb, o + i * 5 + 4, none⟩ = some (.slice ae NE ce) := hc2 4 _ rfl
      obtain ⟨W1, hW1⟩ : ∃ W1, W1 = wr.alloc (.cells #[.int .i64 pe, .int .i64 nx, .slice aq NQ cq, .int .i64 exn, .slice ae NE ce] 73) := ⟨_, rfl⟩
      have bl : Below wr.heap.size wr W1 := by rw [hW1]; exact bwA _ _
      have kk : W1.heap[wr.heap.size]? = some (.cells #[.int .i64 pe, .int .i64 nx, .slice aq NQ cq, .int .i64 exn, .slice ae NE ce] 73 (0, 0)) := by rw [hW1]; exact heap_alloc_new _ _
      have HKP : Hid (∀ W W', W.cell? ⟨wr.heap.size, 0, none⟩ = some (.int .i64 pe) → Below W.heap.size W W' → ∀ b j u, W.cell? ⟨b, j, none⟩ = some u → W'.cell? ⟨b, j, none⟩ = some u) := fun W W' _ hb b j u hu => by rw [hb.cell (lt_of_cell hu)]; exact hu
      have B0 : Hid (Below w.heap.size w W1.drew) := bw_tr (unhide HR).1 (bl.drew)
      have HW := hide hW1
      have HOK : Hid (((0 ≤ p.pe ∧ p.pe < 4) ∧ SendP p ∧ ExpP p) → (∀ (q : Lk) i'', i = i'' + 1 → l[i'']? = some q → q.pe < p.pe) → ∀ j, j < i + 1 → okK l j) := fun q1 q2 j hj => by
        rcases Nat.lt_or_ge j i with d | d
        · exact (unhide HR).2 j d
        · obtain rfl : j = i := by omega
          intro p' hp'
          rw [hp] at hp'; cases hp'
          exact ⟨q1, q2⟩
      have t0 : W1.cell? ⟨wr.heap.size, 0, none⟩ = some (.int .i64 pe) := blk_c kk rfl
      have t1 : W1.cell? ⟨wr.heap.size, 1, none⟩ = some (.int .i64 nx) := blk_c kk rfl
      have t2 : W1.cell? ⟨wr.heap.size, 2, none⟩ = some (.slice aq NQ cq) := blk_c kk rfl
      have t3 : W1.cell? ⟨wr.heap.size, 3, none⟩ = some (.int .i64 exn) := blk_c kk rfl
      have t4 : W1.cell? ⟨wr.heap.size, 4, none⟩ = some (.slice ae NE ce) := blk_c kk rfl
      have HRB := hide (unhide HR).1
      have HBL := hide bl
      have hil : i - 1 < l.length := by omega
      clear hNQ hNE hnx hex hqs hes hR hc hx hlk hc2 hN kk bl hW1
      by_cases hi0 : i = 0
      · have i1 : decide ((0 : Int) < (i : Int)) = false := decide_eq_false (by omega)
        have i2 : ¬ (0 : Int) < (i : Int) := by omega
        have i3 : decide (0 < i) = false := decide_eq_false (by omega)
        have s0 : W1.cell? ⟨wr.heap.size, 0, none⟩ = some (.int .i64 pe) ∧ W1.cell? ⟨wr.heap.size, 1, none⟩ = some (.int .i64 nx) ∧ W1.cell? ⟨wr.heap.size, 2, none⟩ = some (.slice aq NQ cq) ∧ W1.cell? ⟨wr.heap.size, 3, none⟩ = some (.int .i64 exn) ∧ W1.cell? ⟨wr.heap.size, 4, none⟩ = some (.slice ae NE ce) := ⟨t0, t1, t2, t3, t4⟩
        have K0 : Hid (∀ W, Hid (Below w.heap.size w W) → (W.cell? ⟨wr.heap.size, 0, none⟩ = some (.int .i64 pe) ∧ W.cell? ⟨wr.heap.size, 1, none⟩ = some (.int .i64 nx) ∧ W.cell? ⟨wr.heap.size, 2, none⟩ = some (.slice aq NQ cq) ∧ W.cell? ⟨wr.heap.size, 3, none⟩ = some (.int .i64 exn) ∧ W.cell? ⟨wr.heap.size, 4, none⟩ = some (.slice ae NE ce)) → Calls Try.prog 24 #[.int .i64 pe] W fun e w' => e = .returned (.bool (decide (0 ≤ pe ∧ pe < 4))) ∧ Hid (Below w.heap.size w w') ∧ (w'.cell? ⟨wr.heap.size, 0, none⟩ = some (.int .i64 pe) ∧ w'.cell? ⟨wr.heap.size, 1, none⟩ = some (.int .i64 nx) ∧ w'.cell? ⟨wr.heap.size, 2, none⟩ = some (.slice aq NQ cq) ∧ w'.cell? ⟨wr.heap.size, 3, none⟩ = some (.int .i64 exn) ∧ w'.cell? ⟨wr.heap.size, 4, none⟩ = some (.slice ae NE ce))) := fun W hW hS => (isSrv_any (w := W) pe).mono fun e w' q => ⟨q.1, bw_tr (unhide hW) q.2, ⟨unhide HKP W w' hS.1 q.2 _ _ _ hS.1, unhide HKP W w' hS.1 q.2 _ _ _ hS.2.1, unhide HKP W w' hS.1 q.2 _ _ _ hS.2.2.1, unhide HKP W w' hS.1 q.2 _ _ _ hS.2.2.2.1, unhide HKP W w' hS.1 q.2 _ _ _ hS.2.2.2.2⟩⟩
        have K1 : Hid (∀ W, Hid (Below w.heap.size w W) → (W.cell? ⟨wr.heap.size, 0, none⟩ = some (.int .i64 pe) ∧ W.cell? ⟨wr.heap.size, 1, none⟩ = some (.int .i64 nx) ∧ W.cell? ⟨wr.heap.size, 2, none⟩ = some (.slice aq NQ cq) ∧ W.cell? ⟨wr.heap.size, 3, none⟩ = some (.int .i64 exn) ∧ W.cell? ⟨wr.heap.size, 4, none⟩ = some (.slice ae NE ce)) → Calls Try.prog 34 #[.agg #[.int .i64 pe, .int .i64 nx, .slice aq NQ cq, .int .i64 exn, .slice ae NE ce]] W fun e w' => e = .returned (.bool bs) ∧ Hid (Below w.heap.size w w') ∧ (w'.cell? ⟨wr.heap.size, 0, none⟩ = some (.int .i64 pe) ∧ w'.cell? ⟨wr.heap.size, 1, none⟩ = some (.int .i64 nx) ∧ w'.cell? ⟨wr.heap.size, 2, none⟩ = some (.slice aq NQ cq) ∧ w'.cell? ⟨wr.heap.size, 3, none⟩ = some (.int .i64 exn) ∧ w'.cell? ⟨wr.heap.size, 4, none⟩ = some (.slice ae NE ce))) := fun W hW hS => (unhide KS1 W hW).mono fun e w' q => ⟨q.1, bw_tr (unhide hW) q.2, ⟨unhide HKP W w' hS.1 q.2 _ _ _ hS.1, unhide HKP W w' hS.1 q.2 _ _ _ hS.2.1, unhide HKP W w' hS.1 q.2 _ _ _ hS.2.2.1, unhide HKP W w' hS.1 q.2 _ _ _ hS.2.2.2.1, unhide HKP W w' hS.1 q.2 _ _ _ hS.2.2.2.2⟩⟩
        have K2 : Hid (∀ W, Hid (Below w.heap.size w W) → (W.cell? ⟨wr.heap.size, 0, none⟩ = some (.int .i64 pe) ∧ W.cell? ⟨wr.heap.size, 1, none⟩ = some (.int .i64 nx) ∧ W.cell? ⟨wr.heap.size, 2, none⟩ = some (.slice aq NQ cq) ∧ W.cell? ⟨wr.heap.size, 3, none⟩ = some (.int .i64 exn) ∧ W.cell? ⟨wr.heap.size, 4, none⟩ = some (.slice ae NE ce)) → Calls Try.prog 35 #[.agg #[.int .i64 pe, .int .i64 nx, .slice aq NQ cq, .int .i64 exn, .slice ae NE ce]] W fun e w' => e = .returned (.bool be) ∧ Hid (Below w.heap.size w w') ∧ (w'.cell? ⟨wr.heap.size, 0, none⟩ = some (.int .i64 pe) ∧ w'.cell? ⟨wr.heap.size, 1, none⟩ = some (.int .i64 nx) ∧ w'.cell? ⟨wr.heap.size, 2, none⟩ = some (.slice aq NQ cq) ∧ w'.cell? ⟨wr.heap.size, 3, none⟩ = some (.int .i64 exn) ∧ w'.cell? ⟨wr.heap.size, 4, none⟩ = some (.slice ae NE ce))) := fun W hW hS => (unhide KE1 W hW).mono fun e w' q => ⟨q.1, bw_tr (unhide hW) q.2, ⟨unhide HKP W w' hS.1 q.2 _ _ _ hS.1, unhide HKP W w' hS.1 q.2 _ _ _ hS.2.1, unhide HKP W w' hS.1 q.2 _ _ _ hS.2.2.1, unhide HKP W w' hS.1 q.2 _ _ _ hS.2.2.2.1, unhide HKP W w' hS.1 q.2 _ _ _ hS.2.2.2.2⟩⟩
        replace HOK : Hid (((0 ≤ p.pe ∧ p.pe < 4) ∧ SendP p ∧ ExpP p) → ∀ j, j < i + 1 → okK l j) := fun q => unhide HOK q (fun q' i'' e => absurd e (by omega))
        clear t0 t1 t2 t3 t4 KS1 KE1 hi0 h hil
        by_cases hsv : 0 ≤ pe ∧ pe < 4
        · have hdb : decide (0 ≤ pe ∧ pe < 4) = true := decide_eq_true hsv
          rw [hdb] at K0
          cases bs with
          | false =>
            have HR1 : Hid (r = false) := unhide HB i hlt (fun ho => by
              have := (ho p hp).1
              have h2 := this.2.1; rw [← hbs] at h2; cases h2)
            clear hdb hp hr HB HOK hbs hbe hpe
            have S0 : W1.cell? ⟨wr.heap.size, 0, none⟩ = some (.int .i64 pe) ∧ W1.cell? ⟨wr.heap.size, 1, none⟩ = some (.int .i64 nx) ∧ W1.cell? ⟨wr.heap.size, 2, none⟩ = some (.slice aq NQ cq) ∧ W1.cell? ⟨wr.heap.size, 3, none⟩ = some (.int .i64 exn) ∧ W1.cell? ⟨wr.heap.size, 4, none⟩ = some (.slice ae NE ce) := s0
            have S00 : W1.drew.cell? ⟨wr.heap.size, 0, none⟩ = some (.int .i64 pe) ∧ W1.drew.cell? ⟨wr.heap.size, 1, none⟩ = some (.int .i64 nx) ∧ W1.drew.cell? ⟨wr.heap.size, 2, none⟩ = some (.slice aq NQ cq) ∧ W1.drew.cell? ⟨wr.heap.size, 3, none⟩ = some (.int .i64 exn) ∧ W1.drew.cell? ⟨wr.heap.size, 4, none⟩ = some (.slice ae NE ce) := s0
            clear s0
            go_upto_region 4 with fail
            rw [← unhide HW]
            clear HW f0
            refine wp_region_held_drew (S := fun w' : World => w'.cell? ⟨wr.heap.size, 0, none⟩ = some (.int .i64 pe) ∧ w'.cell? ⟨wr.heap.size, 1, none⟩ = some (.int .i64 nx) ∧ w'.cell? ⟨wr.heap.size, 2, none⟩ = some (.slice aq NQ cq) ∧ w'.cell? ⟨wr.heap.size, 3, none⟩ = some (.int .i64 exn) ∧ w'.cell? ⟨wr.heap.size, 4, none⟩ = some (.slice ae NE ce)) (by kernel_rfl) S0 (fun hHeld => ?_)
            refine wpAnyH_take (i := 0) (oi := { dst := some 12, op := Op.move (Operand.tmp 3), type := 3, pos := "links.go:14", after := #[], guard := none }) (v := ?v0r1) rfl (by kernel_rfl) (by kernel_rfl) (by kernel_rfl) (fun _ _ _ h => h) (Or.inl ⟨by rfl, ?hy0r1⟩) (by exact hHeld) ?_
            case hy0r1 => (intro w hSw; (try dsimp only at hSw); go_simp; try (with_reducible rfl))
            try simp only [Act.put, List.setIfInBounds_toArray, List.set_cons_zero, List.set_cons_succ]
            refine wpAnyH_take (i := 1) (oi := { dst := some 13, op := Op.binOp BinOp.gtr 3 (Operand.tmp 12) (Operand.const (Value.int IntKind.i64 0)) 3, type := 4, pos := "links.go:14", after := #[{ on := 0, ground := Ground.data }], guard := none }) (v := ?v1r1) rfl (by kernel_rfl) (by kernel_rfl) (by kernel_rfl) (fun _ _ _ h => h) (Or.inl ⟨by rfl, ?hy1r1⟩) (by exact hHeld) ?_
            case hy1r1 => (intro w hSw; (try dsimp only at hSw); go_simp; try (with_reducible rfl))
            try simp only [Act.put, List.setIfInBounds_toArray, List.set_cons_zero, List.set_cons_succ]
            refine wpAnyH_take (i := 2) (oi := { dst := some 14, op := Op.move (Operand.tmp 13), type := 4, pos := "links.go:14", after := #[{ on := 1, ground := Ground.data }], guard := none }) (v := ?v2r1) rfl (by kernel_rfl) (by kernel_rfl) (by kernel_rfl) (fun _ _ _ h => h) (Or.inl ⟨by rfl, ?hy2r1⟩) (by exact hHeld) ?_
            case hy2r1 => (intro w hSw; (try dsimp only at hSw); go_simp; try (with_reducible rfl))
            try simp only [Act.put, List.setIfInBounds_toArray, List.set_cons_zero, List.set_cons_succ]
            refine wpAnyH_take (i := 3) (oi := { dst := some 15, op := Op.move (Operand.tmp 0), type := 22, pos := "links.go:14", after := #[{ on := 2, ground := Ground.guard }], guard := some (2, true) }) (v := undef) rfl (by kernel_rfl) (by kernel_rfl) (by kernel_rfl) (fun _ _ _ h => h) (Or.inr ⟨by rfl, rfl⟩) (by exact hHeld) ?_
            try simp only [Act.put, List.setIfInBounds_toArray, List.set_cons_zero, List.set_cons_succ]
            refine wpAnyH_take (i := 4) (oi := { dst := some 16, op := Op.move (Operand.tmp 3), type := 3, pos := "links.go:14", after := #[{ on := 2, ground := Ground.guard }], guard := some (2, true) }) (v := undef) rfl (by kernel_rfl) (by kernel_rfl) (by kernel_rfl) (fun _ _ _ h => h) (Or.inr ⟨by rfl, rfl⟩) (by exact hHeld) ?_
            try simp only [Act.put, List.setIfInBounds_toArray, List.set_cons_zero, List.set_cons_succ]
            refine wpAnyH_take (i := 5) (oi := { dst := some 17, op := Op.binOp BinOp.sub 3 (Operand.tmp 16) (Operand.const (Value.int IntKind.i64 1)) 3, type := 3, pos := "links.go:14", after := #[{ on := 4, ground := Ground.data }, { on := 2, ground := Ground.guard }], guard := some (2, true) }) (v := undef) rfl (by kernel_rfl) (by kernel_rfl) (by kernel_rfl) (fun _ _ _ h => h) (Or.inr ⟨by rfl, rfl⟩) (by exact hHeld) ?_
            try simp only [Act.put, List.setIfInBounds_toArray, List.set_cons_zero, List.set_cons_succ]
            refine wpAnyH_take (i := 6) (oi := { dst := some 18, op := Op.indexAddr 22 (Operand.tmp 15) (Operand.tmp 17), type := 0, pos := "links.go:14", after := #[{ on := 3, ground := Ground.data }, { on := 5, ground := Ground.data }, { on := 2, ground := Ground.guard }], guard := some (2, true) }) (v := undef) rfl (by kernel_rfl) (by kernel_rfl) (by kernel_rfl) (fun _ _ _ h => h) (Or.inr ⟨by rfl, rfl⟩) (by exact hHeld) ?_
            try simp only [Act.put, List.setIfInBounds_toArray, List.set_cons_zero, List.set_cons_succ]
            refine wpAnyH_take (i := 7) (oi := { dst := some 19, op := Op.fieldAddr 73 (Operand.tmp 18) 0, type := 0, pos := "links.go:14", after := #[{ on := 6, ground := Ground.data }, { on := 2, ground := Ground.guard }], guard := some (2, true) }) (v := undef) rfl (by kernel_rfl) (by kernel_rfl) (by kernel_rfl) (fun _ _ _ h => h) (Or.inr ⟨by rfl, rfl⟩) (by exact hHeld) ?_
            try simp only [Act.put, List.setIfInBounds_toArray, List.set_cons_zero, List.set_cons_succ]
            refine wpAnyH_take (i := 8) (oi := { dst := some 20, op := Op.load 3 (Operand.tmp 19), type := 3, pos := "links.go:14", after := #[{ on := 7, ground := Ground.data }, { on := 2, ground := Ground.guard }], guard := some (2, true) }) (v := undef) rfl (by kernel_rfl) (by kernel_rfl) (by kernel_rfl) (fun _ _ _ h => h) (Or.inr ⟨by rfl, rfl⟩) (by exact hHeld) ?_
            try simp only [Act.put, List.setIfInBounds_toArray, List.set_cons_zero, List.set_cons_succ]
            refine wpAnyH_take (i := 9) (oi := { dst := some 21, op := Op.fieldAddr 73 (Operand.tmp 4) 0, type := 0, pos := "links.go:14", after := #[{ on := 2, ground := Ground.guard }], guard := some (2, true) }) (v := undef) rfl (by kernel_rfl) (by kernel_rfl) (by kernel_rfl) (fun _ _ _ h => h) (Or.inr ⟨by rfl, rfl⟩) (by exact hHeld) ?_
            try simp only [Act.put, List.setIfInBounds_toArray, List.set_cons_zero, List.set_cons_succ]
            refine wpAnyH_take (i := 10) (oi := { dst := some 22, op := Op.load 3 (Operand.tmp 21), type := 3, pos := "links.go:14", after := #[{ on := 9, ground := Ground.data }, { on := 2, ground := Ground.guard }], guard := some (2, true) }) (v := undef) rfl (by kernel_rfl) (by kernel_rfl) (by kernel_rfl) (fun _ _ _ h => h) (Or.inr ⟨by rfl, rfl⟩) (by exact hHeld) ?_
            try simp only [Act.put, List.setIfInBounds_toArray, List.set_cons_zero, List.set_cons_succ]
            refine wpAnyH_take (i := 11) (oi := { dst := some 23, op := Op.binOp BinOp.geq 3 (Operand.tmp 20) (Operand.tmp 22) 3, type := 4, pos := "links.go:14", after := #[{ on := 8, ground := Ground.data }, { on := 10, ground := Ground.data }, { on := 2, ground := Ground.guard }], guard := some (2, true) }) (v := undef) rfl (by kernel_rfl) (by kernel_rfl) (by kernel_rfl) (fun _ _ _ h => h) (Or.inr ⟨by rfl, rfl⟩) (by exact hHeld) ?_
            try simp only [Act.put, List.setIfInBounds_toArray, List.set_cons_zero, List.set_cons_succ]
            refine wpAnyH_take (i := 12) (oi := { dst := some 24, op := Op.pick (Operand.tmp 14) (Operand.tmp 23) (Operand.const (Value.bool false)), type := 4, pos := "links.go:14", after := #[{ on := 2, ground := Ground.data }, { on := 11, ground := Ground.data }], guard := none }) (v := ?v12r1) rfl (by kernel_rfl) (by kernel_rfl) (by kernel_rfl) (fun _ _ _ h => h) (Or.inl ⟨by rfl, ?hy12r1⟩) (by exact hHeld) ?_
            case hy12r1 => (intro w hSw; (try dsimp only at hSw); go_simp; try (with_reducible rfl))
            try simp only [Act.put, List.setIfInBounds_toArray, List.set_cons_zero, List.set_cons_succ]
            refine wpAnyH_take (i := 13) (oi := { dst := some 25, op := Op.move (Operand.tmp 24), type := 4, pos := "links.go:14", after := #[{ on := 12, ground := Ground.data }, { on := 2, ground := Ground.chain }], guard := none }) (v := ?v13r1) rfl (by kernel_rfl) (by kernel_rfl) (by kernel_rfl) (fun _ _ _ h => h) (Or.inl ⟨by rfl, ?hy13r1⟩) (by exact hHeld) ?_
            case hy13r1 => (intro w hSw; (try dsimp only at hSw); go_simp; try (with_reducible rfl))
            try simp only [Act.put, List.setIfInBounds_toArray, List.set_cons_zero, List.set_cons_succ]
            refine wpAnyH_take (i := 14) (oi := { dst := some 26, op := Op.fieldAddr 73 (Operand.tmp 4) 0, type := 0, pos := "links.go:14", after := #[{ on := 13, ground := Ground.guard }], guard := some (13, false) }) (v := ?v14r1) rfl (by kernel_rfl) (by kernel_rfl) (by kernel_rfl) (fun _ _ _ h => h) (Or.inl ⟨by rfl, ?hy14r1⟩) (by exact hHeld) ?_
            case hy14r1 => (intro w hSw; (try dsimp only at hSw); go_simp; try (with_reducible rfl))
            try simp only [Act.put, List.setIfInBounds_toArray, List.set_cons_zero, List.set_cons_succ]
            refine wpAnyH_take (i := 15) (oi := { dst := some 27, op := Op.load 3 (Operand.tmp 26), type := 3, pos := "links.go:14", after := #[{ on := 14, ground := Ground.data }, { on := 13, ground := Ground.guard }], guard := some (13, false) }) (v := ?v15r1) rfl (by kernel_rfl) (by kernel_rfl) (by kernel_rfl) (fun _ _ _ h => h) (Or.inl ⟨by rfl, ?hy15r1⟩) (by exact hHeld) ?_
            case hy15r1 => (intro w hSw; (try dsimp only at hSw); go_simp; try (with_reducible rfl))
            try simp only [Act.put, List.setIfInBounds_toArray, List.set_cons_zero, List.set_cons_succ]
            refine wpAnyH_ready (rs := [16]) (by kernel_rfl) (by simp) ?_
            refine AllReadyH.cons (o := { dst := some 28, op := Op.call { callee := Callee.value (Operand.func 24), args := #[Operand.tmp 27], argTypes := #[3] }, type := 4, pos := "links.go:14", after := #[{ on := 15, ground := Ground.data }, { on := 13, ground := Ground.chain }, { on := 13, ground := Ground.guard }], guard := some (13, false) }) rfl (fun K hK => ?_) AllReadyH.nil
            go_simp
            go_at_call 24
            refine ((unhide K0) W1.drew B0 S00).mono ?_
            rintro e z1 ⟨rfl, B1, S1⟩
            go_wp2_with fail
            refine hK.out _ _ S1 (fun _ => ?_)
            clear hK K
            try simp only [Act.put, List.setIfInBounds_toArray, List.set_cons_zero, List.set_cons_succ]
            refine wpAnyH_take (i := 17) (oi := { dst := some 29, op := Op.unOp UnOp.not 4 (Operand.tmp 28), type := 4, pos := "links.go:14", after := #[{ on := 16, ground := Ground.data }, { on := 13, ground := Ground.guard }], guard := some (13, false) }) (v := ?v17r1) rfl (by kernel_rfl) (by kernel_rfl) (by kernel_rfl) (fun _ _ _ h => h) (Or.inl ⟨by rfl, ?hy17r1⟩) (by exact S1) ?_
            case hy17r1 => (intro w hSw; (try dsimp only at hSw); go_simp; try (with_reducible rfl))
            try simp only [Act.put, List.setIfInBounds_toArray, List.set_cons_zero, List.set_cons_succ]
            refine wpAnyH_take (i := 18) (oi := { dst := some 30, op := Op.pick (Operand.tmp 25) (Operand.const (Value.bool true)) (Operand.tmp 29), type := 4, pos := "links.go:14", after := #[{ on := 13, ground := Ground.data }, { on := 17, ground := Ground.data }], guard := none }) (v := ?v18r1) rfl (by kernel_rfl) (by kernel_rfl) (by kernel_rfl) (fun _ _ _ h => h) (Or.inl ⟨by rfl, ?hy18r1⟩) (by exact S1) ?_
            case hy18r1 => (intro w hSw; (try dsimp only at hSw); go_simp; try (with_reducible rfl))
            try simp only [Act.put, List.setIfInBounds_toArray, List.set_cons_zero, List.set_cons_succ]
            refine wpAnyH_take (i := 19) (oi := { dst := some 31, op := Op.move (Operand.tmp 30), type := 4, pos := "links.go:14", after := #[{ on := 18, ground := Ground.data }, { on := 16, ground := Ground.chain }], guard := none }) (v := ?v19r1) rfl (by kernel_rfl) (by kernel_rfl) (by kernel_rfl) (fun _ _ _ h => h) (Or.inl ⟨by rfl, ?hy19r1⟩) (by exact S1) ?_
            case hy19r1 => (intro w hSw; (try dsimp only at hSw); go_simp; try (with_reducible rfl))
            try simp only [Act.put, List.setIfInBounds_toArray, List.set_cons_zero, List.set_cons_succ]
            refine wpAnyH_take (i := 20) (oi := { dst := some 32, op := Op.load 73 (Operand.tmp 4), type := 73, pos := "links.go:14", after := #[{ on := 19, ground := Ground.guard }], guard := some (19, false) }) (v := ?v20r1) rfl (by kernel_rfl) (by kernel_rfl) (by kernel_rfl) (fun _ _ _ h => h) (Or.inl ⟨by rfl, ?hy20r1⟩) (by exact S1) ?_
            case hy20r1 => (intro w hSw; (try dsimp only at hSw); go_simp; try (with_reducible rfl))
            try simp only [Act.put, List.setIfInBounds_toArray, List.set_cons_zero, List.set_cons_succ]
            refine wpAnyH_ready (rs := [21]) (by kernel_rfl) (by simp) ?_
            refine AllReadyH.cons (o := { dst := some 33, op := Op.call { callee := Callee.value (Operand.func 34), args := #[Operand.tmp 32], argTypes := #[73] }, type := 4, pos := "links.go:14", after := #[{ on := 20, ground := Ground.data }, { on := 19, ground := Ground.chain }, { on := 19, ground := Ground.guard }], guard := some (19, false) }) rfl (fun K hK => ?_) AllReadyH.nil
            go_simp
            go_at_call 34
            refine ((unhide K1) z1 B1 S1).mono ?_
            rintro e z2 ⟨rfl, B2, S2⟩
            go_wp2_with fail
            refine hK.out _ _ S2 (fun _ => ?_)
            clear hK K
            try simp only [Act.put, List.setIfInBounds_toArray, List.set_cons_zero, List.set_cons_succ]
            refine wpAnyH_take (i := 22) (oi := { dst := some 34, op := Op.unOp UnOp.not 4 (Operand.tmp 33), type := 4, pos := "links.go:14", after := #[{ on := 21, ground := Ground.data }, { on := 19, ground := Ground.guard }], guard := some (19, false) }) (v := ?v22r1) rfl (by kernel_rfl) (by kernel_rfl) (by kernel_rfl) (fun _ _ _ h => h) (Or.inl ⟨by rfl, ?hy22r1⟩) (by exact S2) ?_
            case hy22r1 => (intro w hSw; (try dsimp only at hSw); go_simp; try (with_reducible rfl))
            try simp only [Act.put, List.setIfInBounds_toArray, List.set_cons_zero, List.set_cons_succ]
            refine wpAnyH_take (i := 23) (oi := { dst := some 35, op := Op.pick (Operand.tmp 31) (Operand.const (Value.bool true)) (Operand.tmp 34), type := 4, pos := "links.go:14", after := #[{ on := 19, ground := Ground.data }, { on := 22, ground := Ground.data }], guard := none }) (v := ?v23r1) rfl (by kernel_rfl) (by kernel_rfl) (by kernel_rfl) (fun _ _ _ h => h) (Or.inl ⟨by rfl, ?hy23r1⟩) (by exact S2) ?_
            case hy23r1 => (intro w hSw; (try dsimp only at hSw); go_simp; try (with_reducible rfl))
            try simp only [Act.put, List.setIfInBounds_toArray, List.set_cons_zero, List.set_cons_succ]
            refine wpAnyH_take (i := 24) (oi := { dst := some 36, op := Op.move (Operand.tmp 35), type := 4, pos := "links.go:14", after := #[{ on := 23, ground := Ground.data }, { on := 21, ground := Ground.chain }], guard := none }) (v := ?v24r1) rfl (by kernel_rfl) (by kernel_rfl) (by kernel_rfl) (fun _ _ _ h => h) (Or.inl ⟨by rfl, ?hy24r1⟩) (by exact S2) ?_
            case hy24r1 => (intro w hSw; (try dsimp only at hSw); go_simp; try (with_reducible rfl))
            try simp only [Act.put, List.setIfInBounds_toArray, List.set_cons_zero, List.set_cons_succ]
            refine wpAnyH_take (i := 25) (oi := { dst := some 37, op := Op.load 73 (Operand.tmp 4), type := 73, pos := "links.go:14", after := #[{ on := 24, ground := Ground.guard }], guard := some (24, false) }) (v := undef) rfl (by kernel_rfl) (by kernel_rfl) (by kernel_rfl) (fun _ _ _ h => h) (Or.inr ⟨by rfl, rfl⟩) (by exact S2) ?_
            try simp only [Act.put, List.setIfInBounds_toArray, List.set_cons_zero, List.set_cons_succ]
            refine wpAnyH_take (i := 26) (oi := { dst := some 38, op := Op.call { callee := Callee.value (Operand.func 35), args := #[Operand.tmp 37], argTypes := #[73] }, type := 4, pos := "links.go:14", after := #[{ on := 25, ground := Ground.data }, { on := 24, ground := Ground.chain }, { on := 24, ground := Ground.guard }], guard := some (24, false) }) (v := undef) rfl (by kernel_rfl) (by kernel_rfl) (by kernel_rfl) (fun _ _ _ h => h) (Or.inr ⟨by rfl, rfl⟩) (by exact S2) ?_
            try simp only [Act.put, List.setIfInBounds_toArray, List.set_cons_zero, List.set_cons_succ]
            refine wpAnyH_take (i := 27) (oi := { dst := some 39, op := Op.unOp UnOp.not 4 (Operand.tmp 38), type := 4, pos := "links.go:14", after := #[{ on := 26, ground := Ground.data }, { on := 24, ground := Ground.guard }], guard := some (24, false) }) (v := undef) rfl (by kernel_rfl) (by kernel_rfl) (by kernel_rfl) (fun _ _ _ h => h) (Or.inr ⟨by rfl, rfl⟩) (by exact S2) ?_
            try simp only [Act.put, List.setIfInBounds_toArray, List.set_cons_zero, List.set_cons_succ]
            refine wpAnyH_take (i := 28) (oi := { dst := some 40, op := Op.pick (Operand.tmp 36) (Operand.const (Value.bool true)) (Operand.tmp 39), type := 4, pos := "links.go:14", after := #[{ on := 24, ground := Ground.data }, { on := 27, ground := Ground.data }], guard := none }) (v := ?v28r1) rfl (by kernel_rfl) (by kernel_rfl) (by kernel_rfl) (fun _ _ _ h => h) (Or.inl ⟨by rfl, ?hy28r1⟩) (by exact S2) ?_
            case hy28r1 => (intro w hSw; (try dsimp only at hSw); go_simp; try (with_reducible rfl))
            try simp only [Act.put, List.setIfInBounds_toArray, List.set_cons_zero, List.set_cons_succ]
            refine wpAnyH_done (by kernel_rfl) ?_ _
            clear S0 S00 S1 S2
            go_wp2_with fail
            go_ret
            exact ⟨by rw [unhide HR1]; rfl, unhide B2⟩
          | true =>
            have HB3 : Hid (be = false → r = false) := fun hq => unhide HB i hlt (fun ho => by
              have := (ho p hp).1.2.2
              rw [← hbe, hq] at this; cases this)
            have HB4 : Hid (be = true → ∀ j, j < i + 1 → okK l j) := fun hq => unhide HOK ⟨by rw [← hpe]; exact hsv, hbs.1 rfl, hbe.1 hq⟩
            clear hdb hp hr HB HOK hbs hbe hpe
            have S0 : W1.cell? ⟨wr.heap.size, 0, none⟩ = some (.int .i64 pe) ∧ W1.cell? ⟨wr.heap.size, 1, none⟩ = some (.int .i64 nx) ∧ W1.cell? ⟨wr.heap.size, 2, none⟩ = some (.slice aq NQ cq) ∧ W1.cell? ⟨wr.heap.size, 3, none⟩ = some (.int .i64 exn) ∧ W1.cell? ⟨wr.heap.size, 4, none⟩ = some (.slice ae NE ce) := s0
            have S00 : W1.drew.cell? ⟨wr.heap.size, 0, none⟩ = some (.int .i64 pe) ∧ W1.drew.cell? ⟨wr.heap.size, 1, none⟩ = some (.int .i64 nx) ∧ W1.drew.cell? ⟨wr.heap.size, 2, none⟩ = some (.slice aq NQ cq) ∧ W1.drew.cell? ⟨wr.heap.size, 3, none⟩ = some (.int .i64 exn) ∧ W1.drew.cell? ⟨wr.heap.size, 4, none⟩ = some (.slice ae NE ce) := s0
            clear s0
            go_upto_region 4 with fail
            rw [← unhide HW]
            clear HW f0
            refine wp_region_held_drew (S := fun w' : World => w'.cell? ⟨wr.heap.size, 0, none⟩ = some (.int .i64 pe) ∧ w'.cell? ⟨wr.heap.size, 1, none⟩ = some (.int .i64 nx) ∧ w'.cell? ⟨wr.heap.size, 2, none⟩ = some (.slice aq NQ cq) ∧ w'.cell? ⟨wr.heap.size, 3, none⟩ = some (.int .i64 exn) ∧ w'.cell? ⟨wr.heap.size, 4, none⟩ = some (.slice ae NE ce)) (by kernel_rfl) S0 (fun hHeld => ?_)
            refine wpAnyH_take (i := 0) (oi := { dst := some 12, op := Op.move (Operand.tmp 3), type := 3, pos := "links.go:14", after := #[], guard := none }) (v := ?v0r2) rfl (by kernel_rfl) (by kernel_rfl) (by kernel_rfl) (fun _ _ _ h => h) (Or.inl ⟨by rfl, ?hy0r2⟩) (by exact hHeld) ?_
            case hy0r2 => (intro w hSw; (try dsimp only at hSw); go_simp; try (with_reducible rfl))
            try simp only [Act.put, List.setIfInBounds_toArray, List.set_cons_zero, List.set_cons_succ]
            refine wpAnyH_take (i := 1) (oi := { dst := some 13, op := Op.binOp BinOp.gtr 3 (Operand.tmp 12) (Operand.const (Value.int IntKind.i64 0)) 3, type := 4, pos := "links.go:14", after := #[{ on := 0, ground := Ground.data }], guard := none }) (v := ?v1r2) rfl (by kernel_rfl) (by kernel_rfl) (by kernel_rfl) (fun _ _ _ h => h) (Or.inl ⟨by rfl, ?hy1r2⟩) (by exact hHeld) ?_
            case hy1r2 => (intro w hSw; (try dsimp only at hSw); go_simp; try (with_reducible rfl))
            try simp only [Act.put, List.setIfInBounds_toArray, List.set_cons_zero, List.set_cons_succ]
            refine wpAnyH_take (i := 2) (oi := { dst := some 14, op := Op.move (Operand.tmp 13), type := 4, pos := "links.go:14", after := #[{ on := 1, ground := Ground.data }], guard := none }) (v := ?v2r2) rfl (by kernel_rfl) (by kernel_rfl) (by kernel_rfl) (fun _ _ _ h => h) (Or.inl ⟨by rfl, ?hy2r2⟩) (by exact hHeld) ?_
            case hy2r2 => (intro w hSw; (try dsimp only at hSw); go_simp; try (with_reducible rfl))
            try simp only [Act.put, List.setIfInBounds_toArray, List.set_cons_zero, List.set_cons_succ]
            refine wpAnyH_take (i := 3) (oi := { dst := some 15, op := Op.move (Operand.tmp 0), type := 22, pos := "links.go:14", after := #[{ on := 2, ground := Ground.guard }], guard := some (2, true) }) (v := undef) rfl (by kernel_rfl) (by kernel_rfl) (by kernel_rfl) (fun _ _ _ h => h) (Or.inr ⟨by rfl, rfl⟩) (by exact hHeld) ?_
            try simp only [Act.put, List.setIfInBounds_toArray, List.set_cons_zero, List.set_cons_succ]
            refine wpAnyH_take (i := 4) (oi := { dst := some 16, op := Op.move (Operand.tmp 3), type := 3, pos := "links.go:14", after := #[{ on := 2, ground := Ground.guard }], guard := some (2, true) }) (v := undef) rfl (by kernel_rfl) (by kernel_rfl) (by kernel_rfl) (fun _ _ _ h => h) (Or.inr ⟨by rfl, rfl⟩) (by exact hHeld) ?_
            try simp only [Act.put, List.setIfInBounds_toArray, List.set_cons_zero, List.set_cons_succ]
            refine wpAnyH_take (i := 5) (oi := { dst := some 17, op := Op.binOp BinOp.sub 3 (Operand.tmp 16) (Operand.const (Value.int IntKind.i64 1)) 3, type := 3, pos := "links.go:14", after := #[{ on := 4, ground := Ground.data }, { on := 2, ground := Ground.guard }], guard := some (2, true) }) (v := undef) rfl (by kernel_rfl) (by kernel_rfl) (by kernel_rfl) (fun _ _ _ h => h) (Or.inr ⟨by rfl, rfl⟩) (by exact hHeld) ?_
            try simp only [Act.put, List.setIfInBounds_toArray, List.set_cons_zero, List.set_cons_succ]
            refine wpAnyH_take (i := 6) (oi := { dst := some 18, op := Op.indexAddr 22 (Operand.tmp 15) (Operand.tmp 17), type := 0, pos := "links.go:14", after := #[{ on := 3, ground := Ground.data }, { on := 5, ground := Ground.data }, { on := 2, ground := Ground.guard }], guard := some (2, true) }) (v := undef) rfl (by kernel_rfl) (by kernel_rfl) (by kernel_rfl) (fun _ _ _ h => h) (Or.inr ⟨by rfl, rfl⟩) (by exact hHeld) ?_
            try simp only [Act.put, List.setIfInBounds_toArray, List.set_cons_zero, List.set_cons_succ]
            refine wpAnyH_take (i := 7) (oi := { dst := some 19, op := Op.fieldAddr 73 (Operand.tmp 18) 0, type := 0, pos := "links.go:14", after := #[{ on := 6, ground := Ground.data }, { on := 2, ground := Ground.guard }], guard := some (2, true) }) (v := undef) rfl (by kernel_rfl) (by kernel_rfl) (by kernel_rfl) (fun _ _ _ h => h) (Or.inr ⟨by rfl, rfl⟩) (by exact hHeld) ?_
            try simp only [Act.put, List.setIfInBounds_toArray, List.set_cons_zero, List.set_cons_succ]
            refine wpAnyH_take (i := 8) (oi := { dst := some 20, op := Op.load 3 (Operand.tmp 19), type := 3, pos := "links.go:14", after := #[{ on := 7, ground := Ground.data }, { on := 2, ground := Ground.guard }], guard := some (2, true) }) (v := undef) rfl (by kernel_rfl) (by kernel_rfl) (by kernel_rfl) (fun _ _ _ h => h) (Or.inr ⟨by rfl, rfl⟩) (by exact hHeld) ?_
            try simp only [Act.put, List.setIfInBounds_toArray, List.set_cons_zero, List.set_cons_succ]
            refine wpAnyH_take (i := 9) (oi := { dst := some 21, op := Op.fieldAddr 73 (Operand.tmp 4) 0, type := 0, pos := "links.go:14", after := #[{ on := 2, ground := Ground.guard }], guard := some (2, true) }) (v := undef) rfl (by kernel_rfl) (by kernel_rfl) (by kernel_rfl) (fun _ _ _ h => h) (Or.inr ⟨by rfl, rfl⟩) (by exact hHeld) ?_
            try simp only [Act.put, List.setIfInBounds_toArray, List.set_cons_zero, List.set_cons_succ]
            refine wpAnyH_take (i := 10) (oi := { dst := some 22, op := Op.load 3 (Operand.tmp 21), type := 3, pos := "links.go:14", after := #[{ on := 9, ground := Ground.data }, { on := 2, ground := Ground.guard }], guard := some (2, true) }) (v := undef) rfl (by kernel_rfl) (by kernel_rfl) (by kernel_rfl) (fun _ _ _ h => h) (Or.inr ⟨by rfl, rfl⟩) (by exact hHeld) ?_
            try simp only [Act.put, List.setIfInBounds_toArray, List.set_cons_zero, List.set_cons_succ]
            refine wpAnyH_take (i := 11) (oi := { dst := some 23, op := Op.binOp BinOp.geq 3 (Operand.tmp 20) (Operand.tmp 22) 3, type := 4, pos := "links.go:14", after := #[{ on := 8, ground := Ground.data }, { on := 10, ground := Ground.data }, { on := 2, ground := Ground.guard }], guard := some (2, true) }) (v := undef) rfl (by kernel_rfl) (by kernel_rfl) (by kernel_rfl) (fun _ _ _ h => h) (Or.inr ⟨by rfl, rfl⟩) (by exact hHeld) ?_
            try simp only [Act.put, List.setIfInBounds_toArray, List.set_cons_zero, List.set_cons_succ]
            refine wpAnyH_take (i := 12) (oi := { dst := some 24, op := Op.pick (Operand.tmp 14) (Operand.tmp 23) (Operand.const (Value.bool false)), type := 4, pos := "links.go:14", after := #[{ on := 2, ground := Ground.data }, { on := 11, ground := Ground.data }], guard := none }) (v := ?v12r2) rfl (by kernel_rfl) (by kernel_rfl) (by kernel_rfl) (fun _ _ _ h => h) (Or.inl ⟨by rfl, ?hy12r2⟩) (by exact hHeld) ?_
            case hy12r2 => (intro w hSw; (try dsimp only at hSw); go_simp; try (with_reducible rfl))
            try simp only [Act.put, List.setIfInBounds_toArray, List.set_cons_zero, List.set_cons_succ]
            refine wpAnyH_take (i := 13) (oi := { dst := some 25, op := Op.move (Operand.tmp 24), type := 4, pos := "links.go:14", after := #[{ on := 12, ground := Ground.data }, { on := 2, ground := Ground.chain }], guard := none }) (v := ?v13r2) rfl (by kernel_rfl) (by kernel_rfl) (by kernel_rfl) (fun _ _ _ h => h) (Or.inl ⟨by rfl, ?hy13r2⟩) (by exact hHeld) ?_
            case hy13r2 => (intro w hSw; (try dsimp only at hSw); go_simp; try (with_reducible rfl))
            try simp only [Act.put, List.setIfInBounds_toArray, List.set_cons_zero, List.set_cons_succ]
            refine wpAnyH_take (i := 14) (oi := { dst := some 26, op := Op.fieldAddr 73 (Operand.tmp 4) 0, type := 0, pos := "links.go:14", after := #[{ on := 13, ground := Ground.guard }], guard := some (13, false) }) (v := ?v14r2) rfl (by kernel_rfl) (by kernel_rfl) (by kernel_rfl) (fun _ _ _ h => h) (Or.inl ⟨by rfl, ?hy14r2⟩) (by exact hHeld) ?_
            case hy14r2 => (intro w hSw; (try dsimp only at hSw); go_simp; try (with_reducible rfl))
            try simp only [Act.put, List.setIfInBounds_toArray, List.set_cons_zero, List.set_cons_succ]
            refine wpAnyH_take (i := 15) (oi := { dst := some 27, op := Op.load 3 (Operand.tmp 26), type := 3, pos := "links.go:14", after := #[{ on := 14, ground := Ground.data }, { on := 13, ground := Ground.guard }], guard := some (13, false) }) (v := ?v15r2) rfl (by kernel_rfl) (by kernel_rfl) (by kernel_rfl) (fun _ _ _ h => h) (Or.inl ⟨by rfl, ?hy15r2⟩) (by exact hHeld) ?_
            case hy15r2 => (intro w hSw; (try dsimp only at hSw); go_simp; try (with_reducible rfl))
            try simp only [Act.put, List.setIfInBounds_toArray, List.set_cons_zero, List.set_cons_succ]
            refine wpAnyH_ready (rs := [16]) (by kernel_rfl) (by simp) ?_
            refine AllReadyH.cons (o := { dst := some 28, op := Op.call { callee := Callee.value (Operand.func 24), args := #[Operand.tmp 27], argTypes := #[3] }, type := 4, pos := "links.go:14", after := #[{ on := 15, ground := Ground.data }, { on := 13, ground := Ground.chain }, { on := 13, ground := Ground.guard }], guard := some (13, false) }) rfl (fun K hK => ?_) AllReadyH.nil
            go_simp
            go_at_call 24
            refine ((unhide K0) W1.drew B0 S00).mono ?_
            rintro e z1 ⟨rfl, B1, S1⟩
            go_wp2_with fail
            refine hK.out _ _ S1 (fun _ => ?_)
            clear hK K
            try simp only [Act.put, List.setIfInBounds_toArray, List.set_cons_zero, List.set_cons_succ]
            refine wpAnyH_take (i := 17) (oi := { dst := some 29, op := Op.unOp UnOp.not 4 (Operand.tmp 28), type := 4, pos := "links.go:14", after := #[{ on := 16, ground := Ground.data }, { on := 13, ground := Ground.guard }], guard := some (13, false) }) (v := ?v17r2) rfl (by kernel_rfl) (by kernel_rfl) (by kernel_rfl) (fun _ _ _ h => h) (Or.inl ⟨by rfl, ?hy17r2⟩) (by exact S1) ?_
            case hy17r2 => (intro w hSw; (try dsimp only at hSw); go_simp; try (with_reducible rfl))
            try simp only [Act.put, List.setIfInBounds_toArray, List.set_cons_zero, List.set_cons_succ]
            refine wpAnyH_take (i := 18) (oi := { dst := some 30, op := Op.pick (Operand.tmp 25) (Operand.const (Value.bool true)) (Operand.tmp 29), type := 4, pos := "links.go:14", after := #[{ on := 13, ground := Ground.data }, { on := 17, ground := Ground.data }], guard := none }) (v := ?v18r2) rfl (by kernel_rfl) (by kernel_rfl) (by kernel_rfl) (fun _ _ _ h => h) (Or.inl ⟨by rfl, ?hy18r2⟩) (by exact S1) ?_
            case hy18r2 => (intro w hSw; (try dsimp only at hSw); go_simp; try (with_reducible rfl))
            try simp only [Act.put, List.setIfInBounds_toArray, List.set_cons_zero, List.set_cons_succ]
            refine wpAnyH_take (i := 19) (oi := { dst := some 31, op := Op.move (Operand.tmp 30), type := 4, pos := "links.go:14", after := #[{ on := 18, ground := Ground.data }, { on := 16, ground := Ground.chain }], guard := none }) (v := ?v19r2) rfl (by kernel_rfl) (by kernel_rfl) (by kernel_rfl) (fun _ _ _ h => h) (Or.inl ⟨by rfl, ?hy19r2⟩) (by exact S1) ?_
            case hy19r2 => (intro w hSw; (try dsimp only at hSw); go_simp; try (with_reducible rfl))
            try simp only [Act.put, List.setIfInBounds_toArray, List.set_cons_zero, List.set_cons_succ]
            refine wpAnyH_take (i := 20) (oi := { dst := some 32, op := Op.load 73 (Operand.tmp 4), type := 73, pos := "links.go:14", after := #[{ on := 19, ground := Ground.guard }], guard := some (19, false) }) (v := ?v20r2) rfl (by kernel_rfl) (by kernel_rfl) (by kernel_rfl) (fun _ _ _ h => h) (Or.inl ⟨by rfl, ?hy20r2⟩) (by exact S1) ?_
            case hy20r2 => (intro w hSw; (try dsimp only at hSw); go_simp; try (with_reducible rfl))
            try simp only [Act.put, List.setIfInBounds_toArray, List.set_cons_zero, List.set_cons_succ]
            refine wpAnyH_ready (rs := [21]) (by kernel_rfl) (by simp) ?_
            refine AllReadyH.cons (o := { dst := some 33, op := Op.call { callee := Callee.value (Operand.func 34), args := #[Operand.tmp 32], argTypes := #[73] }, type := 4, pos := "links.go:14", after := #[{ on := 20, ground := Ground.data }, { on := 19, ground := Ground.chain }, { on := 19, ground := Ground.guard }], guard := some (19, false) }) rfl (fun K hK => ?_) AllReadyH.nil
            go_simp
            go_at_call 34
            refine ((unhide K1) z1 B1 S1).mono ?_
            rintro e z2 ⟨rfl, B2, S2⟩
            go_wp2_with fail
            refine hK.out _ _ S2 (fun _ => ?_)
            clear hK K
            try simp only [Act.put, List.setIfInBounds_toArray, List.set_cons_zero, List.set_cons_succ]
            refine wpAnyH_take (i := 22) (oi := { dst := some 34, op := Op.unOp UnOp.not 4 (Operand.tmp 33), type := 4, pos := "links.go:14", after := #[{ on := 21, ground := Ground.data }, { on := 19, ground := Ground.guard }], guard := some (19, false) }) (v := ?v22r2) rfl (by kernel_rfl) (by kernel_rfl) (by kernel_rfl) (fun _ _ _ h => h) (Or.inl ⟨by rfl, ?hy22r2⟩) (by exact S2) ?_
            case hy22r2 => (intro w hSw; (try dsimp only at hSw); go_simp; try (with_reducible rfl))
            try simp only [Act.put, List.setIfInBounds_toArray, List.set_cons_zero, List.set_cons_succ]
            refine wpAnyH_take (i := 23) (oi := { dst := some 35, op := Op.pick (Operand.tmp 31) (Operand.const (Value.bool true)) (Operand.tmp 34), type := 4, pos := "links.go:14", after := #[{ on := 19, ground := Ground.data }, { on := 22, ground := Ground.data }], guard := none }) (v := ?v23r2) rfl (by kernel_rfl) (by kernel_rfl) (by kernel_rfl) (fun _ _ _ h => h) (Or.inl ⟨by rfl, ?hy23r2⟩) (by exact S2) ?_
            case hy23r2 => (intro w hSw; (try dsimp only at hSw); go_simp; try (with_reducible rfl))
            try simp only [Act.put, List.setIfInBounds_toArray, List.set_cons_zero, List.set_cons_succ]
            refine wpAnyH_take (i := 24) (oi := { dst := some 36, op := Op.move (Operand.tmp 35), type := 4, pos := "links.go:14", after := #[{ on := 23, ground := Ground.data }, { on := 21, ground := Ground.chain }], guard := none }) (v := ?v24r2) rfl (by kernel_rfl) (by kernel_rfl) (by kernel_rfl) (fun _ _ _ h => h) (Or.inl ⟨by rfl, ?hy24r2⟩) (by exact S2) ?_
            case hy24r2 => (intro w hSw; (try dsimp only at hSw); go_simp; try (with_reducible rfl))
            try simp only [Act.put, List.setIfInBounds_toArray, List.set_cons_zero, List.set_cons_succ]
            refine wpAnyH_take (i := 25) (oi := { dst := some 37, op := Op.load 73 (Operand.tmp 4), type := 73, pos := "links.go:14", after := #[{ on := 24, ground := Ground.guard }], guard := some (24, false) }) (v := ?v25r2) rfl (by kernel_rfl) (by kernel_rfl) (by kernel_rfl) (fun _ _ _ h => h) (Or.inl ⟨by rfl, ?hy25r2⟩) (by exact S2) ?_
            case hy25r2 => (intro w hSw; (try dsimp only at hSw); go_simp; try (with_reducible rfl))
            try simp only [Act.put, List.setIfInBounds_toArray, List.set_cons_zero, List.set_cons_succ]
            refine wpAnyH_ready (rs := [26]) (by kernel_rfl) (by simp) ?_
            refine AllReadyH.cons (o := { dst := some 38, op := Op.call { callee := Callee.value (Operand.func 35), args := #[Operand.tmp 37], argTypes := #[73] }, type := 4, pos := "links.go:14", after := #[{ on := 25, ground := Ground.data }, { on := 24, ground := Ground.chain }, { on := 24, ground := Ground.guard }], guard := some (24, false) }) rfl (fun K hK => ?_) AllReadyH.nil
            go_simp
            go_at_call 35
            refine ((unhide K2) z2 B2 S2).mono ?_
            rintro e z3 ⟨rfl, B3, S3⟩
            go_wp2_with fail
            refine hK.out _ _ S3 (fun _ => ?_)
            clear hK K
            try simp only [Act.put, List.setIfInBounds_toArray, List.set_cons_zero, List.set_cons_succ]
            refine wpAnyH_take (i := 27) (oi := { dst := some 39, op := Op.unOp UnOp.not 4 (Operand.tmp 38), type := 4, pos := "links.go:14", after := #[{ on := 26, ground := Ground.data }, { on := 24, ground := Ground.guard }], guard := some (24, false) }) (v := ?v27r2) rfl (by kernel_rfl) (by kernel_rfl) (by kernel_rfl) (fun _ _ _ h => h) (Or.inl ⟨by rfl, ?hy27r2⟩) (by exact S3) ?_
            case hy27r2 => (intro w hSw; (try dsimp only at hSw); go_simp; try (with_reducible rfl))
            try simp only [Act.put, List.setIfInBounds_toArray, List.set_cons_zero, List.set_cons_succ]
            refine wpAnyH_take (i := 28) (oi := { dst := some 40, op := Op.pick (Operand.tmp 36) (Operand.const (Value.bool true)) (Operand.tmp 39), type := 4, pos := "links.go:14", after := #[{ on := 24, ground := Ground.data }, { on := 27, ground := Ground.data }], guard := none }) (v := ?v28r2) rfl (by kernel_rfl) (by kernel_rfl) (by kernel_rfl) (fun _ _ _ h => h) (Or.inl ⟨by rfl, ?hy28r2⟩) (by exact S3) ?_
            case hy28r2 => (intro w hSw; (try dsimp only at hSw); go_simp; try (with_reducible rfl))
            try simp only [Act.put, List.setIfInBounds_toArray, List.set_cons_zero, List.set_cons_succ]
            refine wpAnyH_done (by kernel_rfl) ?_ _
            clear S0 S00 S1 S2 S3
            cases be with
            | false =>
              have HR1 := hide (unhide HB3 rfl)
              go_wp2_with fail
              go_ret
              exact ⟨by rw [unhide HR1]; rfl, unhide B3⟩
            | true =>
              have HNX := hide (unhide HB4 rfl)
              go_wp2_with fail
              go_roundw
              case rel => exact ⟨i + 1, by omega, by go_num, unhide B3, unhide HNX⟩
              case measure => simp only [intOf]; omega
        · have hdb : decide (0 ≤ pe ∧ pe < 4) = false := decide_eq_false hsv
          rw [hdb] at K0
          have HR1 : Hid (r = false) := unhide HB i hlt (fun ho => by
            have := (ho p hp).1
            have h2 := this.1; rw [← hpe] at h2; exact hsv h2)
          clear hdb hp hr HB HOK hbs hbe hpe
          have S0 : W1.cell? ⟨wr.heap.size, 0, none⟩ = some (.int .i64 pe) ∧ W1.cell? ⟨wr.heap.size, 1, none⟩ = some (.int .i64 nx) ∧ W1.cell? ⟨wr.heap.size, 2, none⟩ = some (.slice aq NQ cq) ∧ W1.cell? ⟨wr.heap.size, 3, none⟩ = some (.int .i64 exn) ∧ W1.cell? ⟨wr.heap.size, 4, none⟩ = some (.slice ae NE ce) := s0
          have S00 : W1.drew.cell? ⟨wr.heap.size, 0, none⟩ = some (.int .i64 pe) ∧ W1.drew.cell? ⟨wr.heap.size, 1, none⟩ = some (.int .i64 nx) ∧ W1.drew.cell? ⟨wr.heap.size, 2, none⟩ = some (.slice aq NQ cq) ∧ W1.drew.cell? ⟨wr.heap.size, 3, none⟩ = some (.int .i64 exn) ∧ W1.drew.cell? ⟨wr.heap.size, 4, none⟩ = some (.slice ae NE ce) := s0
          clear s0
          go_upto_region 4 with fail
          rw [← unhide HW]
          clear HW f0
          refine wp_region_held_drew (S := fun w' : World => w'.cell? ⟨wr.heap.size, 0, none⟩ = some (.int .i64 pe) ∧ w'.cell? ⟨wr.heap.size, 1, none⟩ = some (.int .i64 nx) ∧ w'.cell? ⟨wr.heap.size, 2, none⟩ = some (.slice aq NQ cq) ∧ w'.cell? ⟨wr.heap.size, 3, none⟩ = some (.int .i64 exn) ∧ w'.cell? ⟨wr.heap.size, 4, none⟩ = some (.slice ae NE ce)) (by kernel_rfl) S0 (fun hHeld => ?_)
          refine wpAnyH_take (i := 0) (oi := { dst := some 12, op := Op.move (Operand.tmp 3), type := 3, pos := "links.go:14", after := #[], guard := none }) (v := ?v0r3) rfl (by kernel_rfl) (by kernel_rfl) (by kernel_rfl) (fun _ _ _ h => h) (Or.inl ⟨by rfl, ?hy0r3⟩) (by exact hHeld) ?_
          case hy0r3 => (intro w hSw; (try dsimp only at hSw); go_simp; try (with_reducible rfl))
          try simp only [Act.put, List.setIfInBounds_toArray, List.set_cons_zero, List.set_cons_succ]
          refine wpAnyH_take (i := 1) (oi := { dst := some 13, op := Op.binOp BinOp.gtr 3 (Operand.tmp 12) (Operand.const (Value.int IntKind.i64 0)) 3, type := 4, pos := "links.go:14", after := #[{ on := 0, ground := Ground.data }], guard := none }) (v := ?v1r3) rfl (by kernel_rfl) (by kernel_rfl) (by kernel_rfl) (fun _ _ _ h => h) (Or.inl ⟨by rfl, ?hy1r3⟩) (by exact hHeld) ?_
          case hy1r3 => (intro w hSw; (try dsimp only at hSw); go_simp; try (with_reducible rfl))
          try simp only [Act.put, List.setIfInBounds_toArray, List.set_cons_zero, List.set_cons_succ]
          refine wpAnyH_take (i := 2) (oi := { dst := some 14, op := Op.move (Operand.tmp 13), type := 4, pos := "links.go:14", after := #[{ on := 1, ground := Ground.data }], guard := none }) (v := ?v2r3) rfl (by kernel_rfl) (by kernel_rfl) (by kernel_rfl) (fun _ _ _ h => h) (Or.inl ⟨by rfl, ?hy2r3⟩) (by exact hHeld) ?_
          case hy2r3 => (intro w hSw; (try dsimp only at hSw); go_simp; try (with_reducible rfl))
          try simp only [Act.put, List.setIfInBounds_toArray, List.set_cons_zero, List.set_cons_succ]
          refine wpAnyH_take (i := 3) (oi := { dst := some 15, op := Op.move (Operand.tmp 0), type := 22, pos := "links.go:14", after := #[{ on := 2, ground := Ground.guard }], guard := some (2, true) }) (v := undef) rfl (by kernel_rfl) (by kernel_rfl) (by kernel_rfl) (fun _ _ _ h => h) (Or.inr ⟨by rfl, rfl⟩) (by exact hHeld) ?_
          try simp only [Act.put, List.setIfInBounds_toArray, List.set_cons_zero, List.set_cons_succ]
          refine wpAnyH_take (i := 4) (oi := { dst := some 16, op := Op.move (Operand.tmp 3), type := 3, pos := "links.go:14", after := #[{ on := 2, ground := Ground.guard }], guard := some (2, true) }) (v := undef) rfl (by kernel_rfl) (by kernel_rfl) (by kernel_rfl) (fun _ _ _ h => h) (Or.inr ⟨by rfl, rfl⟩) (by exact hHeld) ?_
          try simp only [Act.put, List.setIfInBounds_toArray, List.set_cons_zero, List.set_cons_succ]
          refine wpAnyH_take (i := 5) (oi := { dst := some 17, op := Op.binOp BinOp.sub 3 (Operand.tmp 16) (Operand.const (Value.int IntKind.i64 1)) 3, type := 3, pos := "links.go:14", after := #[{ on := 4, ground := Ground.data }, { on := 2, ground := Ground.guard }], guard := some (2, true) }) (v := undef) rfl (by kernel_rfl) (by kernel_rfl) (by kernel_rfl) (fun _ _ _ h => h) (Or.inr ⟨by rfl, rfl⟩) (by exact hHeld) ?_
          try simp only [Act.put, List.setIfInBounds_toArray, List.set_cons_zero, List.set_cons_succ]
          refine wpAnyH_take (i := 6) (oi := { dst := some 18, op := Op.indexAddr 22 (Operand.tmp 15) (Operand.tmp 17), type := 0, pos := "links.go:14", after := #[{ on := 3, ground := Ground.data }, { on := 5, ground := Ground.data }, { on := 2, ground := Ground.guard }], guard := some (2, true) }) (v := undef) rfl (by kernel_rfl) (by kernel_rfl) (by kernel_rfl) (fun _ _ _ h => h) (Or.inr ⟨by rfl, rfl⟩) (by exact hHeld) ?_
          try simp only [Act.put, List.setIfInBounds_toArray, List.set_cons_zero, List.set_cons_succ]
          refine wpAnyH_take (i := 7) (oi := { dst := some 19, op := Op.fieldAddr 73 (Operand.tmp 18) 0, type := 0, pos := "links.go:14", after := #[{ on := 6, ground := Ground.data }, { on := 2, ground := Ground.guard }], guard := some (2, true) }) (v := undef) rfl (by kernel_rfl) (by kernel_rfl) (by kernel_rfl) (fun _ _ _ h => h) (Or.inr ⟨by rfl, rfl⟩) (by exact hHeld) ?_
          try simp only [Act.put, List.setIfInBounds_toArray, List.set_cons_zero, List.set_cons_succ]
          refine wpAnyH_take (i := 8) (oi := { dst := some 20, op := Op.load 3 (Operand.tmp 19), type := 3, pos := "links.go:14", after := #[{ on := 7, ground := Ground.data }, { on := 2, ground := Ground.guard }], guard := some (2, true) }) (v := undef) rfl (by kernel_rfl) (by kernel_rfl) (by kernel_rfl) (fun _ _ _ h => h) (Or.inr ⟨by rfl, rfl⟩) (by exact hHeld) ?_
          try simp only [Act.put, List.setIfInBounds_toArray, List.set_cons_zero, List.set_cons_succ]
          refine wpAnyH_take (i := 9) (oi := { dst := some 21, op := Op.fieldAddr 73 (Operand.tmp 4) 0, type := 0, pos := "links.go:14", after := #[{ on := 2, ground := Ground.guard }], guard := some (2, true) }) (v := undef) rfl (by kernel_rfl) (by kernel_rfl) (by kernel_rfl) (fun _ _ _ h => h) (Or.inr ⟨by rfl, rfl⟩) (by exact hHeld) ?_
          try simp only [Act.put, List.setIfInBounds_toArray, List.set_cons_zero, List.set_cons_succ]
          refine wpAnyH_take (i := 10) (oi := { dst := some 22, op := Op.load 3 (Operand.tmp 21), type := 3, pos := "links.go:14", after := #[{ on := 9, ground := Ground.data }, { on := 2, ground := Ground.guard }], guard := some (2, true) }) (v := undef) rfl (by kernel_rfl) (by kernel_rfl) (by kernel_rfl) (fun _ _ _ h => h) (Or.inr ⟨by rfl, rfl⟩) (by exact hHeld) ?_
          try simp only [Act.put, List.setIfInBounds_toArray, List.set_cons_zero, List.set_cons_succ]
          refine wpAnyH_take (i := 11) (oi := { dst := some 23, op := Op.binOp BinOp.geq 3 (Operand.tmp 20) (Operand.tmp 22) 3, type := 4, pos := "links.go:14", after := #[{ on := 8, ground := Ground.data }, { on := 10, ground := Ground.data }, { on := 2, ground := Ground.guard }], guard := some (2, true) }) (v := undef) rfl (by kernel_rfl) (by kernel_rfl) (by kernel_rfl) (fun _ _ _ h => h) (Or.inr ⟨by rfl, rfl⟩) (by exact hHeld) ?_
          try simp only [Act.put, List.setIfInBounds_toArray, List.set_cons_zero, List.set_cons_succ]
          refine wpAnyH_take (i := 12) (oi := { dst := some 24, op := Op.pick (Operand.tmp 14) (Operand.tmp 23) (Operand.const (Value.bool false)), type := 4, pos := "links.go:14", after := #[{ on := 2, ground := Ground.data }, { on := 11, ground := Ground.data }], guard := none }) (v := ?v12r3) rfl (by kernel_rfl) (by kernel_rfl) (by kernel_rfl) (fun _ _ _ h => h) (Or.inl ⟨by rfl, ?hy12r3⟩) (by exact hHeld) ?_
          case hy12r3 => (intro w hSw; (try dsimp only at hSw); go_simp; try (with_reducible rfl))
          try simp only [Act.put, List.setIfInBounds_toArray, List.set_cons_zero, List.set_cons_succ]
          refine wpAnyH_take (i := 13) (oi := { dst := some 25, op := Op.move (Operand.tmp 24), type := 4, pos := "links.go:14", after := #[{ on := 12, ground := Ground.data }, { on := 2, ground := Ground.chain }], guard := none }) (v := ?v13r3) rfl (by kernel_rfl) (by kernel_rfl) (by kernel_rfl) (fun _ _ _ h => h) (Or.inl ⟨by rfl, ?hy13r3⟩) (by exact hHeld) ?_
          case hy13r3 => (intro w hSw; (try dsimp only at hSw); go_simp; try (with_reducible rfl))
          try simp only [Act.put, List.setIfInBounds_toArray, List.set_cons_zero, List.set_cons_succ]
          refine wpAnyH_take (i := 14) (oi := { dst := some 26, op := Op.fieldAddr 73 (Operand.tmp 4) 0, type := 0, pos := "links.go:14", after := #[{ on := 13, ground := Ground.guard }], guard := some (13, false) }) (v := ?v14r3) rfl (by kernel_rfl) (by kernel_rfl) (by kernel_rfl) (fun _ _ _ h => h) (Or.inl ⟨by rfl, ?hy14r3⟩) (by exact hHeld) ?_
          case hy14r3 => (intro w hSw; (try dsimp only at hSw); go_simp; try (with_reducible rfl))
          try simp only [Act.put, List.setIfInBounds_toArray, List.set_cons_zero, List.set_cons_succ]
          refine wpAnyH_take (i := 15) (oi := { dst := some 27, op := Op.load 3 (Operand.tmp 26), type := 3, pos := "links.go:14", after := #[{ on := 14, ground := Ground.data }, { on := 13, ground := Ground.guard }], guard := some (13, false) }) (v := ?v15r3) rfl (by kernel_rfl) (by kernel_rfl) (by kernel_rfl) (fun _ _ _ h => h) (Or.inl ⟨by rfl, ?hy15r3⟩) (by exact hHeld) ?_
          case hy15r3 => (intro w hSw; (try dsimp only at hSw); go_simp; try (with_reducible rfl))
          try simp only [Act.put, List.setIfInBounds_toArray, List.set_cons_zero, List.set_cons_succ]
          refine wpAnyH_ready (rs := [16]) (by kernel_rfl) (by simp) ?_
          refine AllReadyH.cons (o := { dst := some 28, op := Op.call { callee := Callee.value (Operand.func 24), args := #[Operand.tmp 27], argTypes := #[3] }, type := 4, pos := "links.go:14", after := #[{ on := 15, ground := Ground.data }, { on := 13, ground := Ground.chain }, { on := 13, ground := Ground.guard }], guard := some (13, false) }) rfl (fun K hK => ?_) AllReadyH.nil
          go_simp
          go_at_call 24
          refine ((unhide K0) W1.drew B0 S00).mono ?_
          rintro e z1 ⟨rfl, B1, S1⟩
          go_wp2_with fail
          refine hK.out _ _ S1 (fun _ => ?_)
          clear hK K
          try simp only [Act.put, List.setIfInBounds_toArray, List.set_cons_zero, List.set_cons_succ]
          refine wpAnyH_take (i := 17) (oi := { dst := some 29, op := Op.unOp UnOp.not 4 (Operand.tmp 28), type := 4, pos := "links.go:14", after := #[{ on := 16, ground := Ground.data }, { on := 13, ground := Ground.guard }], guard := some (13, false) }) (v := ?v17r3) rfl (by kernel_rfl) (by kernel_rfl) (by kernel_rfl) (fun _ _ _ h => h) (Or.inl ⟨by rfl, ?hy17r3⟩) (by exact S1) ?_
          case hy17r3 => (intro w hSw; (try dsimp only at hSw); go_simp; try (with_reducible rfl))
          try simp only [Act.put, List.setIfInBounds_toArray, List.set_cons_zero, List.set_cons_succ]
          refine wpAnyH_take (i := 18) (oi := { dst := some 30, op := Op.pick (Operand.tmp 25) (Operand.const (Value.bool true)) (Operand.tmp 29), type := 4, pos := "links.go:14", after := #[{ on := 13, ground := Ground.data }, { on := 17, ground := Ground.data }], guard := none }) (v := ?v18r3) rfl (by kernel_rfl) (by kernel_rfl) (by kernel_rfl) (fun _ _ _ h => h) (Or.inl ⟨by rfl, ?hy18r3⟩) (by exact S1) ?_
          case hy18r3 => (intro w hSw; (try dsimp only at hSw); go_simp; try (with_reducible rfl))
          try simp only [Act.put, List.setIfInBounds_toArray, List.set_cons_zero, List.set_cons_succ]
          refine wpAnyH_take (i := 19) (oi := { dst := some 31, op := Op.move (Operand.tmp 30), type := 4, pos := "links.go:14", after := #[{ on := 18, ground := Ground.data }, { on := 16, ground := Ground.chain }], guard := none }) (v := ?v19r3) rfl (by kernel_rfl) (by kernel_rfl) (by kernel_rfl) (fun _ _ _ h => h) (Or.inl ⟨by rfl, ?hy19r3⟩) (by exact S1) ?_
          case hy19r3 => (intro w hSw; (try dsimp only at hSw); go_simp; try (with_reducible rfl))
          try simp only [Act.put, List.setIfInBounds_toArray, List.set_cons_zero, List.set_cons_succ]
          refine wpAnyH_take (i := 20) (oi := { dst := some 32, op := Op.load 73 (Operand.tmp 4), type := 73, pos := "links.go:14", after := #[{ on := 19, ground := Ground.guard }], guard := some (19, false) }) (v := undef) rfl (by kernel_rfl) (by kernel_rfl) (by kernel_rfl) (fun _ _ _ h => h) (Or.inr ⟨by rfl, rfl⟩) (by exact S1) ?_
          try simp only [Act.put, List.setIfInBounds_toArray, List.set_cons_zero, List.set_cons_succ]
          refine wpAnyH_take (i := 21) (oi := { dst := some 33, op := Op.call { callee := Callee.value (Operand.func 34), args := #[Operand.tmp 32], argTypes := #[73] }, type := 4, pos := "links.go:14", after := #[{ on := 20, ground := Ground.data }, { on := 19, ground := Ground.chain }, { on := 19, ground := Ground.guard }], guard := some (19, false) }) (v := undef) rfl (by kernel_rfl) (by kernel_rfl) (by kernel_rfl) (fun _ _ _ h => h) (Or.inr ⟨by rfl, rfl⟩) (by exact S1) ?_
          try simp only [Act.put, List.setIfInBounds_toArray, List.set_cons_zero, List.set_cons_succ]
          refine wpAnyH_take (i := 22) (oi := { dst := some 34, op := Op.unOp UnOp.not 4 (Operand.tmp 33), type := 4, pos := "links.go:14", after := #[{ on := 21, ground := Ground.data }, { on := 19, ground := Ground.guard }], guard := some (19, false) }) (v := undef) rfl (by kernel_rfl) (by kernel_rfl) (by kernel_rfl) (fun _ _ _ h => h) (Or.inr ⟨by rfl, rfl⟩) (by exact S1) ?_
          try simp only [Act.put, List.setIfInBounds_toArray, List.set_cons_zero, List.set_cons_succ]
          refine wpAnyH_take (i := 23) (oi := { dst := some 35, op := Op.pick (Operand.tmp 31) (Operand.const (Value.bool true)) (Operand.tmp 34), type := 4, pos := "links.go:14", after := #[{ on := 19, ground := Ground.data }, { on := 22, ground := Ground.data }], guard := none }) (v := ?v23r3) rfl (by kernel_rfl) (by kernel_rfl) (by kernel_rfl) (fun _ _ _ h => h) (Or.inl ⟨by rfl, ?hy23r3⟩) (by exact S1) ?_
          case hy23r3 => (intro w hSw; (try dsimp only at hSw); go_simp; try (with_reducible rfl))
          try simp only [Act.put, List.setIfInBounds_toArray, List.set_cons_zero, List.set_cons_succ]
          refine wpAnyH_take (i := 24) (oi := { dst := some 36, op := Op.move (Operand.tmp 35), type := 4, pos := "links.go:14", after := #[{ on := 23, ground := Ground.data }, { on := 21, ground := Ground.chain }], guard := none }) (v := ?v24r3) rfl (by kernel_rfl) (by kernel_rfl) (by kernel_rfl) (fun _ _ _ h => h) (Or.inl ⟨by rfl, ?hy24r3⟩) (by exact S1) ?_
          case hy24r3 => (intro w hSw; (try dsimp only at hSw); go_simp; try (with_reducible rfl))
          try simp only [Act.put, List.setIfInBounds_toArray, List.set_cons_zero, List.set_cons_succ]
          refine wpAnyH_take (i := 25) (oi := { dst := some 37, op := Op.load 73 (Operand.tmp 4), type := 73, pos := "links.go:14", after := #[{ on := 24, ground := Ground.guard }], guard := some (24, false) }) (v := undef) rfl (by kernel_rfl) (by kernel_rfl) (by kernel_rfl) (fun _ _ _ h => h) (Or.inr ⟨by rfl, rfl⟩) (by exact S1) ?_
          try simp only [Act.put, List.setIfInBounds_toArray, List.set_cons_zero, List.set_cons_succ]
          refine wpAnyH_take (i := 26) (oi := { dst := some 38, op := Op.call { callee := Callee.value (Operand.func 35), args := #[Operand.tmp 37], argTypes := #[73] }, type := 4, pos := "links.go:14", after := #[{ on := 25, ground := Ground.data }, { on := 24, ground := Ground.chain }, { on := 24, ground := Ground.guard }], guard := some (24, false) }) (v := undef) rfl (by kernel_rfl) (by kernel_rfl) (by kernel_rfl) (fun _ _ _ h => h) (Or.inr ⟨by rfl, rfl⟩) (by exact S1) ?_
          try simp only [Act.put, List.setIfInBounds_toArray, List.set_cons_zero, List.set_cons_succ]
          refine wpAnyH_take (i := 27) (oi := { dst := some 39, op := Op.unOp UnOp.not 4 (Operand.tmp 38), type := 4, pos := "links.go:14", after := #[{ on := 26, ground := Ground.data }, { on := 24, ground := Ground.guard }], guard := some (24, false) }) (v := undef) rfl (by kernel_rfl) (by kernel_rfl) (by kernel_rfl) (fun _ _ _ h => h) (Or.inr ⟨by rfl, rfl⟩) (by exact S1) ?_
          try simp only [Act.put, List.setIfInBounds_toArray, List.set_cons_zero, List.set_cons_succ]
          refine wpAnyH_take (i := 28) (oi := { dst := some 40, op := Op.pick (Operand.tmp 36) (Operand.const (Value.bool true)) (Operand.tmp 39), type := 4, pos := "links.go:14", after := #[{ on := 24, ground := Ground.data }, { on := 27, ground := Ground.data }], guard := none }) (v := ?v28r3) rfl (by kernel_rfl) (by kernel_rfl) (by kernel_rfl) (fun _ _ _ h => h) (Or.inl ⟨by rfl, ?hy28r3⟩) (by exact S1) ?_
          case hy28r3 => (intro w hSw; (try dsimp only at hSw); go_simp; try (with_reducible rfl))
          try simp only [Act.put, List.setIfInBounds_toArray, List.set_cons_zero, List.set_cons_succ]
          refine wpAnyH_done (by kernel_rfl) ?_ _
          clear S0 S00 S1
          go_wp2_with fail
          go_ret
          exact ⟨by rw [unhide HR1]; rfl, unhide B1⟩
      · obtain ⟨q, hq⟩ : ∃ q, l[i - 1]? = some q := ⟨_, List.getElem?_eq_getElem hil⟩
        clear hil
        obtain ⟨gb', o', x', e', hx', hcv', hc'⟩ := h.get hq
        cases e'
        obtain ⟨qp, hqp⟩ : ∃ z, z = q.pe := ⟨_, rfl⟩
        have d0 : w.cell? ⟨gb, o + (i - 1) * 5, none⟩ = some (.int .i64 qp) := by rw [hqp]; exact hc' 0 _ rfl
        obtain ⟨i', hi'⟩ : ∃ z, z = i - 1 := ⟨_, rfl⟩
        rw [← hi'] at d0 hq
        clear hc' hx' hcv'
        have d1 : wr.cell? ⟨gb, o + i' * 5, none⟩ = some (.int .i64 qp) := by rw [(unhide HRB).cell (lt_of_cell d0)]; exact d0
        have t5 : W1.cell? ⟨gb, o + i' * 5, none⟩ = some (.int .i64 qp) := by rw [(unhide HBL).cell (lt_of_cell d1)]; exact d1
        have v1 : (i : Int) - 1 = (i' : Int) := by omega
        have hw2 : IntKind.i64.wrap (i' : Int) = (i' : Int) := by rw [IntKind.wrap_i64]; omega
        have v2 : (i' : Int) < (N : Int) := by omega
        have v3 : (0 : Int) ≤ (i' : Int) := by omega
        have v4 : (0 : Int) < (i : Int) := by omega
        have v7 : decide (0 < i) = true := decide_eq_true (by omega)
        have v8 : 0 < i := by omega
        have s0 : W1.cell? ⟨wr.heap.size, 0, none⟩ = some (.int .i64 pe) ∧ W1.cell? ⟨wr.heap.size, 1, none⟩ = some (.int .i64 nx) ∧ W1.cell? ⟨wr.heap.size, 2, none⟩ = some (.slice aq NQ cq) ∧ W1.cell? ⟨wr.heap.size, 3, none⟩ = some (.int .i64 exn) ∧ W1.cell? ⟨wr.heap.size, 4, none⟩ = some (.slice ae NE ce) ∧ W1.cell? ⟨gb, o + i' * 5, none⟩ = some (.int .i64 qp) := ⟨t0, t1, t2, t3, t4, t5⟩
        have K0 : Hid (∀ W, Hid (Below w.heap.size w W) → (W.cell? ⟨wr.heap.size, 0, none⟩ = some (.int .i64 pe) ∧ W.cell? ⟨wr.heap.size, 1, none⟩ = some (.int .i64 nx) ∧ W.cell? ⟨wr.heap.size, 2, none⟩ = some (.slice aq NQ cq) ∧ W.cell? ⟨wr.heap.size, 3, none⟩ = some (.int .i64 exn) ∧ W.cell? ⟨wr.heap.size, 4, none⟩ = some (.slice ae NE ce) ∧ W.cell? ⟨gb, o + i' * 5, none⟩ = some (.int .i64 qp)) → Calls Try.prog 24 #[.int .i64 pe] W fun e w' => e = .returned (.bool (decide (0 ≤ pe ∧ pe < 4))) ∧ Hid (Below w.heap.size w w') ∧ (w'.cell? ⟨wr.heap.size, 0, none⟩ = some (.int .i64 pe) ∧ w'.cell? ⟨wr.heap.size, 1, none⟩ = some (.int .i64 nx) ∧ w'.cell? ⟨wr.heap.size, 2, none⟩ = some (.slice aq NQ cq) ∧ w'.cell? ⟨wr.heap.size, 3, none⟩ = some (.int .i64 exn) ∧ w'.cell? ⟨wr.heap.size, 4, none⟩ = some (.slice ae NE ce) ∧ w'.cell? ⟨gb, o + i' * 5, none⟩ = some (.int .i64 qp))) := fun W hW hS => (isSrv_any (w := W) pe).mono fun e w' q => ⟨q.1, bw_tr (unhide hW) q.2, ⟨unhide HKP W w' hS.1 q.2 _ _ _ hS.1, unhide HKP W w' hS.1 q.2 _ _ _ hS.2.1, unhide HKP W w' hS.1 q.2 _ _ _ hS.2.2.1, unhide HKP W w' hS.1 q.2 _ _ _ hS.2.2.2.1, unhide HKP W w' hS.1 q.2 _ _ _ hS.2.2.2.2.1, unhide HKP W w' hS.1 q.2 _ _ _ hS.2.2.2.2.2⟩⟩
        have K1 : Hid (∀ W, Hid (Below w.heap.size w W) → (W.cell? ⟨wr.heap.size, 0, none⟩ = some (.int .i64 pe) ∧ W.cell? ⟨wr.heap.size, 1, none⟩ = some (.int .i64 nx) ∧ W.cell? ⟨wr.heap.size, 2, none⟩ = some (.slice aq NQ cq) ∧ W.cell? ⟨wr.heap.size, 3, none⟩ = some (.int .i64 exn) ∧ W.cell? ⟨wr.heap.size, 4, none⟩ = some (.slice ae NE ce) ∧ W.cell? ⟨gb, o + i' * 5, none⟩ = some (.int .i64 qp)) → Calls Try.prog 34 #[.agg #[.int .i64 pe, .int .i64 nx, .slice aq NQ cq, .int .i64 exn, .slice ae NE ce]] W fun e w' => e = .returned (.bool bs) ∧ Hid (Below w.heap.size w w') ∧ (w'.cell? ⟨wr.heap.size, 0, none⟩ = some (.int .i64 pe) ∧ w'.cell? ⟨wr.heap.size, 1, none⟩ = some (.int .i64 nx) ∧ w'.cell? ⟨wr.heap.size, 2, none⟩ = some (.slice aq NQ cq) ∧ w'.cell? ⟨wr.heap.size, 3, none⟩ = some (.int .i64 exn) ∧ w'.cell? ⟨wr.heap.size, 4, none⟩ = some (.slice ae NE ce) ∧ w'.cell? ⟨gb, o + i' * 5, none⟩ = some (.int .i64 qp))) := fun W hW hS => (unhide KS1 W hW).mono fun e w' q => ⟨q.1, bw_tr (unhide hW) q.2, ⟨unhide HKP W w' hS.1 q.2 _ _ _ hS.1, unhide HKP W w' hS.1 q.2 _ _ _ hS.2.1, unhide HKP W w' hS.1 q.2 _ _ _ hS.2.2.1, unhide HKP W w' hS.1 q.2 _ _ _ hS.2.2.2.1, unhide HKP W w' hS.1 q.2 _ _ _ hS.2.2.2.2.1, unhide HKP W w' hS.1 q.2 _ _ _ hS.2.2.2.2.2⟩⟩
        have K2 : Hid (∀ W, Hid (Below w.heap.size w W) → (W.cell? ⟨wr.heap.size, 0, none⟩ = some (.int .i64 pe) ∧ W.cell? ⟨wr.heap.size, 1, none⟩ = some (.int .i64 nx) ∧ W.cell? ⟨wr.heap.size, 2, none⟩ = some (.slice aq NQ cq) ∧ W.cell? ⟨wr.heap.size, 3, none⟩ = some (.int .i64 exn) ∧ W.cell? ⟨wr.heap.size, 4, none⟩ = some (.slice ae NE ce) ∧ W.cell? ⟨gb, o + i' * 5, none⟩ = some (.int .i64 qp)) → Calls Try.prog 35 #[.agg #[.int .i64 pe, .int .i64 nx, .slice aq NQ cq, .int .i64 exn, .slice ae NE ce]] W fun e w' => e = .returned (.bool be) ∧ Hid (Below w.heap.size w w') ∧ (w'.cell? ⟨wr.heap.size, 0, none⟩ = some (.int .i64 pe) ∧ w'.cell? ⟨wr.heap.size, 1, none⟩ = some (.int .i64 nx) ∧ w'.cell? ⟨wr.heap.size, 2, none⟩ = some (.slice aq NQ cq) ∧ w'.cell? ⟨wr.heap.size, 3, none⟩ = some (.int .i64 exn) ∧ w'.cell? ⟨wr.heap.size, 4, none⟩ = some (.slice ae NE ce) ∧ w'.cell? ⟨gb, o + i' * 5, none⟩ = some (.int .i64 qp))) := fun W hW hS => (unhide KE1 W hW).mono fun e w' q => ⟨q.1, bw_tr (unhide hW) q.2, ⟨unhide HKP W w' hS.1 q.2 _ _ _ hS.1, unhide HKP W w' hS.1 q.2 _ _ _ hS.2.1, unhide HKP W w' hS.1 q.2 _ _ _ hS.2.2.1, unhide HKP W w' hS.1 q.2 _ _ _ hS.2.2.2.1, unhide HKP W w' hS.1 q.2 _ _ _ hS.2.2.2.2.1, unhide HKP W w' hS.1 q.2 _ _ _ hS.2.2.2.2.2⟩⟩
        clear t0 t1 t2 t3 t4 t5 d0 d1 KS1 KE1 hi0 h
        by_cases hqq : qp < pe
        · have v5 : ¬ pe ≤ qp := by omega
          have v6 : decide (pe ≤ qp) = false := decide_eq_false v5
          replace HOK : Hid (((0 ≤ p.pe ∧ p.pe < 4) ∧ SendP p ∧ ExpP p) → ∀ j, j < i + 1 → okK l j) := fun q1 => unhide HOK q1 (fun q' i'' e hq' => by
            obtain rfl : i'' = i' := by omega
            rw [hq] at hq'
            cases hq'
            rw [← hqp, ← hpe]
            exact hqq)
          clear hq hqp hi' hqq
          by_cases hsv : 0 ≤ pe ∧ pe < 4
          · have hdb : decide (0 ≤ pe ∧ pe < 4) = true := decide_eq_true hsv
            rw [hdb] at K0
            cases bs with
            | false =>
              have HR1 : Hid (r = false) := unhide HB i hlt (fun ho => by
                have := (ho p hp).1
                have h2 := this.2.1; rw [← hbs] at h2; cases h2)
              clear hdb hp hr HB HOK hbs hbe hpe
              have S0 : W1.cell? ⟨wr.heap.size, 0, none⟩ = some (.int .i64 pe) ∧ W1.cell? ⟨wr.heap.size, 1, none⟩ = some (.int .i64 nx) ∧ W1.cell? ⟨wr.heap.size, 2, none⟩ = some (.slice aq NQ cq) ∧ W1.cell? ⟨wr.heap.size, 3, none⟩ = some (.int .i64 exn) ∧ W1.cell? ⟨wr.heap.size, 4, none⟩ = some (.slice ae NE ce) ∧ W1.cell? ⟨gb, o + i' * 5, none⟩ = some (.int .i64 qp) := s0
              have S00 : W1.drew.cell? ⟨wr.heap.size, 0, none⟩ = some (.int .i64 pe) ∧ W1.drew.cell? ⟨wr.heap.size, 1, none⟩ = some (.int .i64 nx) ∧ W1.drew.cell? ⟨wr.heap.size, 2, none⟩ = some (.slice aq NQ cq) ∧ W1.drew.cell? ⟨wr.heap.size, 3, none⟩ = some (.int .i64 exn) ∧ W1.drew.cell? ⟨wr.heap.size, 4, none⟩ = some (.slice ae NE ce) ∧ W1.drew.cell? ⟨gb, o + i' * 5, none⟩ = some (.int .i64 qp) := s0
              clear s0
              go_upto_region 4 with fail
              rw [← unhide HW]
              clear HW f0
              refine wp_region_held_drew (S := fun w' : World => w'.cell? ⟨wr.heap.size, 0, none⟩ = some (.int .i64 pe) ∧ w'.cell? ⟨wr.heap.size, 1, none⟩ = some (.int .i64 nx) ∧ w'.cell? ⟨wr.heap.size, 2, none⟩ = some (.slice aq NQ cq) ∧ w'.cell? ⟨wr.heap.size, 3, none⟩ = some (.int .i64 exn) ∧ w'.cell? ⟨wr.heap.size, 4, none⟩ = some (.slice ae NE ce) ∧ w'.cell? ⟨gb, o + i' * 5, none⟩ = some (.int .i64 qp)) (by kernel_rfl) S0 (fun hHeld => ?_)
              refine wpAnyH_take (i := 0) (oi := { dst := some 12, op := Op.move (Operand.tmp 3), type := 3, pos := "links.go:14", after := #[], guard := none }) (v := ?v0r4) rfl (by kernel_rfl) (by kernel_rfl) (by kernel_rfl) (fun _ _ _ h => h) (Or.inl ⟨by rfl, ?hy0r4⟩) (by exact hHeld) ?_
              case hy0r4 => (intro w hSw; (try dsimp only at hSw); go_simp; try (with_reducible rfl))
              try simp only [Act.put, List.setIfInBounds_toArray, List.set_cons_zero, List.set_cons_succ]
              refine wpAnyH_take (i := 1) (oi := { dst := some 13, op := Op.binOp BinOp.gtr 3 (Operand.tmp 12) (Operand.const (Value.int IntKind.i64 0)) 3, type := 4, pos := "links.go:14", after := #[{ on := 0, ground := Ground.data }], guard := none }) (v := ?v1r4) rfl (by kernel_rfl) (by kernel_rfl) (by kernel_rfl) (fun _ _ _ h => h) (Or.inl ⟨by rfl, ?hy1r4⟩) (by exact hHeld) ?_
              case hy1r4 => (intro w hSw; (try dsimp only at hSw); go_simp; try (with_reducible rfl))
              try simp only [Act.put, List.setIfInBounds_toArray, List.set_cons_zero, List.set_cons_succ]
              refine wpAnyH_take (i := 2) (oi := { dst := some 14, op := Op.move (Operand.tmp 13), type := 4, pos := "links.go:14", after := #[{ on := 1, ground := Ground.data }], guard := none }) (v := ?v2r4) rfl (by kernel_rfl) (by kernel_rfl) (by kernel_rfl) (fun _ _ _ h => h) (Or.inl ⟨by rfl, ?hy2r4⟩) (by exact hHeld) ?_
              case hy2r4 => (intro w hSw; (try dsimp only at hSw); go_simp; try (with_reducible rfl))
              try simp only [Act.put, List.setIfInBounds_toArray, List.set_cons_zero, List.set_cons_succ]
              refine wpAnyH_take (i := 3) (oi := { dst := some 15, op := Op.move (Operand.tmp 0), type := 22, pos := "links.go:14", after := #[{ on := 2, ground := Ground.guard }], guard := some (2, true) }) (v := ?v3r4) rfl (by kernel_rfl) (by kernel_rfl) (by kernel_rfl) (fun _ _ _ h => h) (Or.inl ⟨by rfl, ?hy3r4⟩) (by exact hHeld) ?_
              case hy3r4 => (intro w hSw; (try dsimp only at hSw); go_simp; try (with_reducible rfl))
              try simp only [Act.put, List.setIfInBounds_toArray, List.set_cons_zero, List.set_cons_succ]
              refine wpAnyH_take (i := 4) (oi := { dst := some 16, op := Op.move (Operand.tmp 3), type := 3, pos := "links.go:14", after := #[{ on := 2, ground := Ground.guard }], guard := some (2, true) }) (v := ?v4r4) rfl (by kernel_rfl) (by kernel_rfl) (by kernel_rfl) (fun _ _ _ h => h) (Or.inl ⟨by rfl, ?hy4r4⟩) (by exact hHeld) ?_
              case hy4r4 => (intro w hSw; (try dsimp only at hSw); go_simp; try (with_reducible rfl))
              try simp only [Act.put, List.setIfInBounds_toArray, List.set_cons_zero, List.set_cons_succ]
              refine wpAnyH_take (i := 5) (oi := { dst := some 17, op := Op.binOp BinOp.sub 3 (Operand.tmp 16) (Operand.const (Value.int IntKind.i64 1)) 3, type := 3, pos := "links.go:14", after := #[{ on := 4, ground := Ground.data }, { on := 2, ground := Ground.guard }], guard := some (2, true) }) (v := ?v5r4) rfl (by kernel_rfl) (by kernel_rfl) (by kernel_rfl) (fun _ _ _ h => h) (Or.inl ⟨by rfl, ?hy5r4⟩) (by exact hHeld) ?_
              case hy5r4 => (intro w hSw; (try dsimp only at hSw); go_simp; try (with_reducible rfl))
              try simp only [Act.put, List.setIfInBounds_toArray, List.set_cons_zero, List.set_cons_succ]
              refine wpAnyH_take (i := 6) (oi := { dst := some 18, op := Op.indexAddr 22 (Operand.tmp 15) (Operand.tmp 17), type := 0, pos := "links.go:14", after := #[{ on := 3, ground := Ground.data }, { on := 5, ground := Ground.data }, { on := 2, ground := Ground.guard }], guard := some (2, true) }) (v := ?v6r4) rfl (by kernel_rfl) (by kernel_rfl) (by kernel_rfl) (fun _ _ _ h => h) (Or.inl ⟨by rfl, ?hy6r4⟩) (by exact hHeld) ?_
              case hy6r4 => (intro w hSw; (try dsimp only at hSw); go_simp; try (with_reducible rfl))
              try simp only [Act.put, List.setIfInBounds_toArray, List.set_cons_zero, List.set_cons_succ]
              refine wpAnyH_take (i := 7) (oi := { dst := some 19, op := Op.fieldAddr 73 (Operand.tmp 18) 0, type := 0, pos := "links.go:14", after := #[{ on := 6, ground := Ground.data }, { on := 2, ground := Ground.guard }], guard := some (2, true) }) (v := ?v7r4) rfl (by kernel_rfl) (by kernel_rfl) (by kernel_rfl) (fun _ _ _ h => h) (Or.inl ⟨by rfl, ?hy7r4⟩) (by exact hHeld) ?_
              case hy7r4 => (intro w hSw; (try dsimp only at hSw); go_simp; try (with_reducible rfl))
              try simp only [Act.put, List.setIfInBounds_toArray, List.set_cons_zero, List.set_cons_succ]
              refine wpAnyH_take (i := 8) (oi := { dst := some 20, op := Op.load 3 (Operand.tmp 19), type := 3, pos := "links.go:14", after := #[{ on := 7, ground := Ground.data }, { on := 2, ground := Ground.guard }], guard := some (2, true) }) (v := ?v8r4) rfl (by kernel_rfl) (by kernel_rfl) (by kernel_rfl) (fun _ _ _ h => h) (Or.inl ⟨by rfl, ?hy8r4⟩) (by exact hHeld) ?_
              case hy8r4 => (intro w hSw; (try dsimp only at hSw); go_simp; try (with_reducible rfl))
              try simp only [Act.put, List.setIfInBounds_toArray, List.set_cons_zero, List.set_cons_succ]
              refine wpAnyH_take (i := 9) (oi := { dst := some 21, op := Op.fieldAddr 73 (Operand.tmp 4) 0, type := 0, pos := "links.go:14", after := #[{ on := 2, ground := Ground.guard }], guard := some (2, true) }) (v := ?v9r4) rfl (by kernel_rfl) (by kernel_rfl) (by kernel_rfl) (fun _ _ _ h => h) (Or.inl ⟨by rfl, ?hy9r4⟩) (by exact hHeld) ?_
              case hy9r4 => (intro w hSw; (try dsimp only at hSw); go_simp; try (with_reducible rfl))
              try simp only [Act.put, List.setIfInBounds_toArray, List.set_cons_zero, List.set_cons_succ]
              refine wpAnyH_take (i := 10) (oi := { dst := some 22, op := Op.load 3 (Operand.tmp 21), type := 3, pos := "links.go:14", after := #[{ on := 9, ground := Ground.data }, { on := 2, ground := Ground.guard }], guard := some (2, true) }) (v := ?v10r4) rfl (by kernel_rfl) (by kernel_rfl) (by kernel_rfl) (fun _ _ _ h => h) (Or.inl ⟨by rfl, ?hy10r4⟩) (by exact hHeld) ?_
              case hy10r4 => (intro w hSw; (try dsimp only at hSw); go_simp; try (with_reducible rfl))
              try simp only [Act.put, List.setIfInBounds_toArray, List.set_cons_zero, List.set_cons_succ]
              refine wpAnyH_take (i := 11) (oi := { dst := some 23, op := Op.binOp BinOp.geq 3 (Operand.tmp 20) (Operand.tmp 22) 3, type := 4, pos := "links.go:14", after := #[{ on := 8, ground := Ground.data }, { on := 10, ground := Ground.data }, { on := 2, ground := Ground.guard }], guard := some (2, true) }) (v := ?v11r4) rfl (by kernel_rfl) (by kernel_rfl) (by kernel_rfl) (fun _ _ _ h => h) (Or.inl ⟨by rfl, ?hy11r4⟩) (by exact hHeld) ?_
              case hy11r4 => (intro w hSw; (try dsimp only at hSw); go_simp; try (with_reducible rfl))
              try simp only [Act.put, List.setIfInBounds_toArray, List.set_cons_zero, List.set_cons_succ]
              refine wpAnyH_take (i := 12) (oi := { dst := some 24, op := Op.pick (Operand.tmp 14) (Operand.tmp 23) (Operand.const (Value.bool false)), type := 4, pos := "links.go:14", after := #[{ on := 2, ground := Ground.data }, { on := 11, ground := Ground.data }], guard := none }) (v := ?v12r4) rfl (by kernel_rfl) (by kernel_rfl) (by kernel_rfl) (fun _ _ _ h => h) (Or.inl ⟨by rfl, ?hy12r4⟩) (by exact hHeld) ?_
              case hy12r4 => (intro w hSw; (try dsimp only at hSw); go_simp; try (with_reducible rfl))
              try simp only [Act.put, List.setIfInBounds_toArray, List.set_cons_zero, List.set_cons_succ]
              refine wpAnyH_take (i := 13) (oi := { dst := some 25, op := Op.move (Operand.tmp 24), type := 4, pos := "links.go:14", after := #[{ on := 12, ground := Ground.data }, { on := 2, ground := Ground.chain }], guard := none }) (v := ?v13r4) rfl (by kernel_rfl) (by kernel_rfl) (by kernel_rfl) (fun _ _ _ h => h) (Or.inl ⟨by rfl, ?hy13r4⟩) (by exact hHeld) ?_
              case hy13r4 => (intro w hSw; (try dsimp only at hSw); go_simp; try (with_reducible rfl))
              try simp only [Act.put, List.setIfInBounds_toArray, List.set_cons_zero, List.set_cons_succ]
              refine wpAnyH_take (i := 14) (oi := { dst := some 26, op := Op.fieldAddr 73 (Operand.tmp 4) 0, type := 0, pos := "links.go:14", after := #[{ on := 13, ground := Ground.guard }], guard := some (13, false) }) (v := ?v14r4) rfl (by kernel_rfl) (by kernel_rfl) (by kernel_rfl) (fun _ _ _ h => h) (Or.inl ⟨by rfl, ?hy14r4⟩) (by exact hHeld) ?_
              case hy14r4 => (intro w hSw; (try dsimp only at hSw); go_simp; try (with_reducible rfl))
              try simp only [Act.put, List.setIfInBounds_toArray, List.set_cons_zero, List.set_cons_succ]
              refine wpAnyH_take (i := 15) (oi := { dst := some 27, op := Op.load 3 (Operand.tmp 26), type := 3, pos := "links.go:14", after := #[{ on := 14, ground := Ground.data }, { on := 13, ground := Ground.guard }], guard := some (13, false) }) (v := ?v15r4) rfl (by kernel_rfl) (by kernel_rfl) (by kernel_rfl) (fun _ _ _ h => h) (Or.inl ⟨by rfl, ?hy15r4⟩) (by exact hHeld) ?_
              case hy15r4 => (intro w hSw; (try dsimp only at hSw); go_simp; try (with_reducible rfl))
              try simp only [Act.put, List.setIfInBounds_toArray, List.set_cons_zero, List.set_cons_succ]
              refine wpAnyH_ready (rs := [16]) (by kernel_rfl) (by simp) ?_
              refine AllReadyH.cons (o := { dst := some 28, op := Op.call { callee := Callee.value (Operand.func 24), args := #[Operand.tmp 27], argTypes := #[3] }, type := 4, pos := "links.go:14", after := #[{ on := 15, ground := Ground.data }, { on := 13, ground := Ground.chain }, { on := 13, ground := Ground.guard }], guard := some (13, false) }) rfl (fun K hK => ?_) AllReadyH.nil
              go_simp
              go_at_call 24
              refine ((unhide K0) W1.drew B0 S00).mono ?_
              rintro e z1 ⟨rfl, B1, S1⟩
              go_wp2_with fail
              refine hK.out _ _ S1 (fun _ => ?_)
              clear hK K
              try simp only [Act.put, List.setIfInBounds_toArray, List.set_cons_zero, List.set_cons_succ]
              refine wpAnyH_take (i := 17) (oi := { dst := some 29, op := Op.unOp UnOp.not 4 (Operand.tmp 28), type := 4, pos := "links.go:14", after := #[{ on := 16, ground := Ground.data }, { on := 13, ground := Ground.guard }], guard := some (13, false) }) (v := ?v17r4) rfl (by kernel_rfl) (by kernel_rfl) (by kernel_rfl) (fun _ _ _ h => h) (Or.inl ⟨by rfl, ?hy17r4⟩) (by exact S1) ?_
              case hy17r4 => (intro w hSw; (try dsimp only at hSw); go_simp; try (with_reducible rfl))
              try simp only [Act.put, List.setIfInBounds_toArray, List.set_cons_zero, List.set_cons_succ]
              refine wpAnyH_take (i := 18) (oi := { dst := some 30, op := Op.pick (Operand.tmp 25) (Operand.const (Value.bool true)) (Operand.tmp 29), type := 4, pos := "links.go:14", after := #[{ on := 13, ground := Ground.data }, { on := 17, ground := Ground.data }], guard := none }) (v := ?v18r4) rfl (by kernel_rfl) (by kernel_rfl) (by kernel_rfl) (fun _ _ _ h => h) (Or.inl ⟨by rfl, ?hy18r4⟩) (by exact S1) ?_
              case hy18r4 => (intro w hSw; (try dsimp only at hSw); go_simp; try (with_reducible rfl))
              try simp only [Act.put, List.setIfInBounds_toArray, List.set_cons_zero, List.set_cons_succ]
              refine wpAnyH_take (i := 19) (oi := { dst := some 31, op := Op.move (Operand.tmp 30), type := 4, pos := "links.go:14", after := #[{ on := 18, ground := Ground.data }, { on := 16, ground := Ground.chain }], guard := none }) (v := ?v19r4) rfl (by kernel_rfl) (by kernel_rfl) (by kernel_rfl) (fun _ _ _ h => h) (Or.inl ⟨by rfl, ?hy19r4⟩) (by exact S1) ?_
              case hy19r4 => (intro w hSw; (try dsimp only at hSw); go_simp; try (with_reducible rfl))
              try simp only [Act.put, List.setIfInBounds_toArray, List.set_cons_zero, List.set_cons_succ]
              refine wpAnyH_take (i := 20) (oi := { dst := some 32, op := Op.load 73 (Operand.tmp 4), type := 73, pos := "links.go:14", after := #[{ on := 19, ground := Ground.guard }], guard := some (19, false) }) (v := ?v20r4) rfl (by kernel_rfl) (by kernel_rfl) (by kernel_rfl) (fun _ _ _ h => h) (Or.inl ⟨by rfl, ?hy20r4⟩) (by exact S1) ?_
              case hy20r4 => (intro w hSw; (try dsimp only at hSw); go_simp; try (with_reducible rfl))
              try simp only [Act.put, List.setIfInBounds_toArray, List.set_cons_zero, List.set_cons_succ]
              refine wpAnyH_ready (rs := [21]) (by kernel_rfl) (by simp) ?_
              refine AllReadyH.cons (o := { dst := some 33, op := Op.call { callee := Callee.value (Operand.func 34), args := #[Operand.tmp 32], argTypes := #[73] }, type := 4, pos := "links.go:14", after := #[{ on := 20, ground := Ground.data }, { on := 19, ground := Ground.chain }, { on := 19, ground := Ground.guard }], guard := some (19, false) }) rfl (fun K hK => ?_) AllReadyH.nil
              go_simp
              go_at_call 34
              refine ((unhide K1) z1 B1 S1).mono ?_
              rintro e z2 ⟨rfl, B2, S2⟩
              go_wp2_with fail
              refine hK.out _ _ S2 (fun _ => ?_)
              clear hK K
              try simp only [Act.put, List.setIfInBounds_toArray, List.set_cons_zero, List.set_cons_succ]
              refine wpAnyH_take (i := 22) (oi := { dst := some 34, op := Op.unOp UnOp.not 4 (Operand.tmp 33), type := 4, pos := "links.go:14", after := #[{ on := 21, ground := Ground.data }, { on := 19, ground := Ground.guard }], guard := some (19, false) }) (v := ?v22r4) rfl (by kernel_rfl) (by kernel_rfl) (by kernel_rfl) (fun _ _ _ h => h) (Or.inl ⟨by rfl, ?hy22r4⟩) (by exact S2) ?_
              case hy22r4 => (intro w hSw; (try dsimp only at hSw); go_simp; try (with_reducible rfl))
              try simp only [Act.put, List.setIfInBounds_toArray, List.set_cons_zero, List.set_cons_succ]
              refine wpAnyH_take (i := 23) (oi := { dst := some 35, op := Op.pick (Operand.tmp 31) (Operand.const (Value.bool true)) (Operand.tmp 34), type := 4, pos := "links.go:14", after := #[{ on := 19, ground := Ground.data }, { on := 22, ground := Ground.data }], guard := none }) (v := ?v23r4) rfl (by kernel_rfl) (by kernel_rfl) (by kernel_rfl) (fun _ _ _ h => h) (Or.inl ⟨by rfl, ?hy23r4⟩) (by exact S2) ?_
              case hy23r4 => (intro w hSw; (try dsimp only at hSw); go_simp; try (with_reducible rfl))
              try simp only [Act.put, List.setIfInBounds_toArray, List.set_cons_zero, List.set_cons_succ]
              refine wpAnyH_take (i := 24) (oi := { dst := some 36, op := Op.move (Operand.tmp 35), type := 4, pos := "links.go:14", after := #[{ on := 23, ground := Ground.data }, { on := 21, ground := Ground.chain }], guard := none }) (v := ?v24r4) rfl (by kernel_rfl) (by kernel_rfl) (by kernel_rfl) (fun _ _ _ h => h) (Or.inl ⟨by rfl, ?hy24r4⟩) (by exact S2) ?_
              case hy24r4 => (intro w hSw; (try dsimp only at hSw); go_simp; try (with_reducible rfl))
              try simp only [Act.put, List.setIfInBounds_toArray, List.set_cons_zero, List.set_cons_succ]
              refine wpAnyH_take (i := 25) (oi := { dst := some 37, op := Op.load 73 (Operand.tmp 4), type := 73, pos := "links.go:14", after := #[{ on := 24, ground := Ground.guard }], guard := some (24, false) }) (v := undef) rfl (by kernel_rfl) (by kernel_rfl) (by kernel_rfl) (fun _ _ _ h => h) (Or.inr ⟨by rfl, rfl⟩) (by exact S2) ?_
              try simp only [Act.put, List.setIfInBounds_toArray, List.set_cons_zero, List.set_cons_succ]
              refine wpAnyH_take (i := 26) (oi := { dst := some 38, op := Op.call { callee := Callee.value (Operand.func 35), args := #[Operand.tmp 37], argTypes := #[73] }, type := 4, pos := "links.go:14", after := #[{ on := 25, ground := Ground.data }, { on := 24, ground := Ground.chain }, { on := 24, ground := Ground.guard }], guard := some (24, false) }) (v := undef) rfl (by kernel_rfl) (by kernel_rfl) (by kernel_rfl) (fun _ _ _ h => h) (Or.inr ⟨by rfl, rfl⟩) (by exact S2) ?_
              try simp only [Act.put, List.setIfInBounds_toArray, List.set_cons_zero, List.set_cons_succ]
              refine wpAnyH_take (i := 27) (oi := { dst := some 39, op := Op.unOp UnOp.not 4 (Operand.tmp 38), type := 4, pos := "links.go:14", after := #[{ on := 26, ground := Ground.data }, { on := 24, ground := Ground.guard }], guard := some (24, false) }) (v := undef) rfl (by kernel_rfl) (by kernel_rfl) (by kernel_rfl) (fun _ _ _ h => h) (Or.inr ⟨by rfl, rfl⟩) (by exact S2) ?_
              try simp only [Act.put, List.setIfInBounds_toArray, List.set_cons_zero, List.set_cons_succ]
              refine wpAnyH_take (i := 28) (oi := { dst := some 40, op := Op.pick (Operand.tmp 36) (Operand.const (Value.bool true)) (Operand.tmp 39), type := 4, pos := "links.go:14", after := #[{ on := 24, ground := Ground.data }, { on := 27, ground := Ground.data }], guard := none }) (v := ?v28r4) rfl (by kernel_rfl) (by kernel_rfl) (by kernel_rfl) (fun _ _ _ h => h) (Or.inl ⟨by rfl, ?hy28r4⟩) (by exact S2) ?_
              case hy28r4 => (intro w hSw; (try dsimp only at hSw); go_simp; try (with_reducible rfl))
              try simp only [Act.put, List.setIfInBounds_toArray, List.set_cons_zero, List.set_cons_succ]
              refine wpAnyH_done (by kernel_rfl) ?_ _
              clear S0 S00 S1 S2
              go_wp2_with fail
              go_ret
              exact ⟨by rw [unhide HR1]; rfl, unhide B2⟩
            | true =>
              have HB3 : Hid (be = false → r = false) := fun hq => unhide HB i hlt (fun ho => by
                have := (ho p hp).1.2.2
                rw [← hbe, hq] at this; cases this)
              have HB4 : Hid (be = true → ∀ j, j < i + 1 → okK l j) := fun hq => unhide HOK ⟨by rw [← hpe]; exact hsv, hbs.1 rfl, hbe.1 hq⟩
              clear hdb hp hr HB HOK hbs hbe hpe
              have S0 : W1.cell? ⟨wr.heap.size, 0, none⟩ = some (.int .i64 pe) ∧ W1.cell? ⟨wr.heap.size, 1, none⟩ = some (.int .i64 nx) ∧ W1.cell? ⟨wr.heap.size, 2, none⟩ = some (.slice aq NQ cq) ∧ W1.cell? ⟨wr.heap.size, 3, none⟩ = some (.int .i64 exn) ∧ W1.cell? ⟨wr.heap.size, 4, none⟩ = some (.slice ae NE ce) ∧ W1.cell? ⟨gb, o + i' * 5, none⟩ = some (.int .i64 qp) := s0
              have S00 : W1.drew.cell? ⟨wr.heap.size, 0, none⟩ = some (.int .i64 pe) ∧ W1.drew.cell? ⟨wr.heap.size, 1, none⟩ = some (.int .i64 nx) ∧ W1.drew.cell? ⟨wr.heap.size, 2, none⟩ = some (.slice aq NQ cq) ∧ W1.drew.cell? ⟨wr.heap.size, 3, none⟩ = some (.int .i64 exn) ∧ W1.drew.cell? ⟨wr.heap.size, 4, none⟩ = some (.slice ae NE ce) ∧ W1.drew.cell? ⟨gb, o + i' * 5, none⟩ = some (.int .i64 qp) := s0
              clear s0
              go_upto_region 4 with fail
              rw [← unhide HW]
              clear HW f0
              refine wp_region_held_drew (S := fun w' : World => w'.cell? ⟨wr.heap.size, 0, none⟩ = some (.int .i64 pe) ∧ w'.cell? ⟨wr.heap.size, 1, none⟩ = some (.int .i64 nx) ∧ w'.cell? ⟨wr.heap.size, 2, none⟩ = some (.slice aq NQ cq) ∧ w'.cell? ⟨wr.heap.size, 3, none⟩ = some (.int .i64 exn) ∧ w'.cell? ⟨wr.heap.size, 4, none⟩ = some (.slice ae NE ce) ∧ w'.cell? ⟨gb, o + i' * 5, none⟩ = some (.int .i64 qp)) (by kernel_rfl) S0 (fun hHeld => ?_)
              refine wpAnyH_take (i := 0) (oi := { dst := some 12, op := Op.move (Operand.tmp 3), type := 3, pos := "links.go:14", after := #[], guard := none }) (v := ?v0r5) rfl (by kernel_rfl) (by kernel_rfl) (by kernel_rfl) (fun _ _ _ h => h) (Or.inl ⟨by rfl, ?hy0r5⟩) (by exact hHeld) ?_
              case hy0r5 => (intro w hSw; (try dsimp only at hSw); go_simp; try (with_reducible rfl))
              try simp only [Act.put, List.setIfInBounds_toArray, List.set_cons_zero, List.set_cons_succ]
              refine wpAnyH_take (i := 1) (oi := { dst := some 13, op := Op.binOp BinOp.gtr 3 (Operand.tmp 12) (Operand.const (Value.int IntKind.i64 0)) 3, type := 4, pos := "links.go:14", after := #[{ on := 0, ground := Ground.data }], guard := none }) (v := ?v1r5) rfl (by kernel_rfl) (by kernel_rfl) (by kernel_rfl) (fun _ _ _ h => h) (Or.inl ⟨by rfl, ?hy1r5⟩) (by exact hHeld) ?_
              case hy1r5 => (intro w hSw; (try dsimp only at hSw); go_simp; try (with_reducible rfl))
              try simp only [Act.put, List.setIfInBounds_toArray, List.set_cons_zero, List.set_cons_succ]
              refine wpAnyH_take (i := 2) (oi := { dst := some 14, op := Op.move (Operand.tmp 13), type := 4, pos := "links.go:14", after := #[{ on := 1, ground := Ground.data }], guard := none }) (v := ?v2r5) rfl (by kernel_rfl) (by kernel_rfl) (by kernel_rfl) (fun _ _ _ h => h) (Or.inl ⟨by rfl, ?hy2r5⟩) (by exact hHeld) ?_
              case hy2r5 => (intro w hSw; (try dsimp only at hSw); go_simp; try (with_reducible rfl))
              try simp only [Act.put, List.setIfInBounds_toArray, List.set_cons_zero, List.set_cons_succ]
              refine wpAnyH_take (i := 3) (oi := { dst := some 15, op := Op.move (Operand.tmp 0), type := 22, pos := "links.go:14", after := #[{ on := 2, ground := Ground.guard }], guard := some (2, true) }) (v := ?v3r5) rfl (by kernel_rfl) (by kernel_rfl) (by kernel_rfl) (fun _ _ _ h => h) (Or.inl ⟨by rfl, ?hy3r5⟩) (by exact hHeld) ?_
              case hy3r5 => (intro w hSw; (try dsimp only at hSw); go_simp; try (with_reducible rfl))
              try simp only [Act.put, List.setIfInBounds_toArray, List.set_cons_zero, List.set_cons_succ]
              refine wpAnyH_take (i := 4) (oi := { dst := some 16, op := Op.move (Operand.tmp 3), type := 3, pos := "links.go:14", after := #[{ on := 2, ground := Ground.guard }], guard := some (2, true) }) (v := ?v4r5) rfl (by kernel_rfl) (by kernel_rfl) (by kernel_rfl) (fun _ _ _ h => h) (Or.inl ⟨by rfl, ?hy4r5⟩) (by exact hHeld) ?_
              case hy4r5 => (intro w hSw; (try dsimp only at hSw); go_simp; try (with_reducible rfl))
              try simp only [Act.put, List.setIfInBounds_toArray, List.set_cons_zero, List.set_cons_succ]
              refine wpAnyH_take (i := 5) (oi := { dst := some 17, op := Op.binOp BinOp.sub 3 (Operand.tmp 16) (Operand.const (Value.int IntKind.i64 1)) 3, type := 3, pos := "links.go:14", after := #[{ on := 4, ground := Ground.data }, { on := 2, ground := Ground.guard }], guard := some (2, true) }) (v := ?v5r5) rfl (by kernel_rfl) (by kernel_rfl) (by kernel_rfl) (fun _ _ _ h => h) (Or.inl ⟨by rfl, ?hy5r5⟩) (by exact hHeld) ?_
              case hy5r5 => (intro w hSw; (try dsimp only at hSw); go_simp; try (with_reducible rfl))
              try simp only [Act.put, List.setIfInBounds_toArray, List.set_cons_zero, List.set_cons_succ]
              refine wpAnyH_take (i := 6) (oi := { dst := some 18, op := Op.indexAddr 22 (Operand.tmp 15) (Operand.tmp 17), type := 0, pos := "links.go:14", after := #[{ on := 3, ground := Ground.data }, { on := 5, ground := Ground.data }, { on := 2, ground := Ground.guard }], guard := some (2, true) }) (v := ?v6r5) rfl (by kernel_rfl) (by kernel_rfl) (by kernel_rfl) (fun _ _ _ h => h) (Or.inl ⟨by rfl, ?hy6r5⟩) (by exact hHeld) ?_
              case hy6r5 => (intro w hSw; (try dsimp only at hSw); go_simp; try (with_reducible rfl))
              try simp only [Act.put, List.setIfInBounds_toArray, List.set_cons_zero, List.set_cons_succ]
              refine wpAnyH_take (i := 7) (oi := { dst := some 19, op := Op.fieldAddr 73 (Operand.tmp 18) 0, type := 0, pos := "links.go:14", after := #[{ on := 6, ground := Ground.data }, { on := 2, ground := Ground.guard }], guard := some (2, true) }) (v := ?v7r5) rfl (by kernel_rfl) (by kernel_rfl) (by kernel_rfl) (fun _ _ _ h => h) (Or.inl ⟨by rfl, ?hy7r5⟩) (by exact hHeld) ?_
              case hy7r5 => (intro w hSw; (try dsimp only at hSw); go_simp; try (with_reducible rfl))
              try simp only [Act.put, List.setIfInBounds_toArray, List.set_cons_zero, List.set_cons_succ]
              refine wpAnyH_take (i := 8) (oi := { dst := some 20, op := Op.load 3 (Operand.tmp 19), type := 3, pos := "links.go:14", after := #[{ on := 7, ground := Ground.data }, { on := 2, ground := Ground.guard }], guard := some (2, true) }) (v := ?v8r5) rfl (by kernel_rfl) (by kernel_rfl) (by kernel_rfl) (fun _ _ _ h => h) (Or.inl ⟨by rfl, ?hy8r5⟩) (by exact hHeld) ?_
              case hy8r5 => (intro w hSw; (try dsimp only at hSw); go_simp; try (with_reducible rfl))
              try simp only [Act.put, List.setIfInBounds_toArray, List.set_cons_zero, List.set_cons_succ]
              refine wpAnyH_take (i := 9) (oi := { dst := some 21, op := Op.fieldAddr 73 (Operand.tmp 4) 0, type := 0, pos := "links.go:14", after := #[{ on := 2, ground := Ground.guard }], guard := some (2, true) }) (v := ?v9r5) rfl (by kernel_rfl) (by kernel_rfl) (by kernel_rfl) (fun _ _ _ h => h) (Or.inl ⟨by rfl, ?hy9r5⟩) (by exact hHeld) ?_
              case hy9r5 => (intro w hSw; (try dsimp only at hSw); go_simp; try (with_reducible rfl))
              try simp only [Act.put, List.setIfInBounds_toArray, List.set_cons_zero, List.set_cons_succ]
              refine wpAnyH_take (i := 10) (oi := { dst := some 22, op := Op.load 3 (Operand.tmp 21), type := 3, pos := "links.go:14", after := #[{ on := 9, ground := Ground.data }, { on := 2, ground := Ground.guard }], guard := some (2, true) }) (v := ?v10r5) rfl (by kernel_rfl) (by kernel_rfl) (by kernel_rfl) (fun _ _ _ h => h) (Or.inl ⟨by rfl, ?hy10r5⟩) (by exact hHeld) ?_
              case hy10r5 => (intro w hSw; (try dsimp only at hSw); go_simp; try (with_reducible rfl))
              try simp only [Act.put, List.setIfInBounds_toArray, List.set_cons_zero, List.set_cons_succ]
              refine wpAnyH_take (i := 11) (oi := { dst := some 23, op := Op.binOp BinOp.geq 3 (Operand.tmp 20) (Operand.tmp 22) 3, type := 4, pos := "links.go:14", after := #[{ on := 8, ground := Ground.data }, { on := 10, ground := Ground.data }, { on := 2, ground := Ground.guard }], guard := some (2, true) }) (v := ?v11r5) rfl (by kernel_rfl) (by kernel_rfl) (by kernel_rfl) (fun _ _ _ h => h) (Or.inl ⟨by rfl, ?hy11r5⟩) (by exact hHeld) ?_
              case hy11r5 => (intro w hSw; (try dsimp only at hSw); go_simp; try (with_reducible rfl))
              try simp only [Act.put, List.setIfInBounds_toArray, List.set_cons_zero, List.set_cons_succ]
              refine wpAnyH_take (i := 12) (oi := { dst := some 24, op := Op.pick (Operand.tmp 14) (Operand.tmp 23) (Operand.const (Value.bool false)), type := 4, pos := "links.go:14", after := #[{ on := 2, ground := Ground.data }, { on := 11, ground := Ground.data }], guard := none }) (v := ?v12r5) rfl (by kernel_rfl) (by kernel_rfl) (by kernel_rfl) (fun _ _ _ h => h) (Or.inl ⟨by rfl, ?hy12r5⟩) (by exact hHeld) ?_
              case hy12r5 => (intro w hSw; (try dsimp only at hSw); go_simp; try (with_reducible rfl))
              try simp only [Act.put, List.setIfInBounds_toArray, List.set_cons_zero, List.set_cons_succ]
              refine wpAnyH_take (i := 13) (oi := { dst := some 25, op := Op.move (Operand.tmp 24), type := 4, pos := "links.go:14", after := #[{ on := 12, ground := Ground.data }, { on := 2, ground := Ground.chain }], guard := none }) (v := ?v13r5) rfl (by kernel_rfl) (by kernel_rfl) (by kernel_rfl) (fun _ _ _ h => h) (Or.inl ⟨by rfl, ?hy13r5⟩) (by exact hHeld) ?_
              case hy13r5 => (intro w hSw; (try dsimp only at hSw); go_simp; try (with_reducible rfl))
              try simp only [Act.put, List.setIfInBounds_toArray, List.set_cons_zero, List.set_cons_succ]
              refine wpAnyH_take (i := 14) (oi := { dst := some 26, op := Op.fieldAddr 73 (Operand.tmp 4) 0, type := 0, pos := "links.go:14", after := #[{ on := 13, ground := Ground.guard }], guard := some (13, false) }) (v := ?v14r5) rfl (by kernel_rfl) (by kernel_rfl) (by kernel_rfl) (fun _ _ _ h => h) (Or.inl ⟨by rfl, ?hy14r5⟩) (by exact hHeld) ?_
              case hy14r5 => (intro w hSw; (try dsimp only at hSw); go_simp; try (with_reducible rfl))
              try simp only [Act.put, List.setIfInBounds_toArray, List.set_cons_zero, List.set_cons_succ]
              refine wpAnyH_take (i := 15) (oi := { dst := some 27, op := Op.load 3 (Operand.tmp 26), type := 3, pos := "links.go:14", after := #[{ on := 14, ground := Ground.data }, { on := 13, ground := Ground.guard }], guard := some (13, false) }) (v := ?v15r5) rfl (by kernel_rfl) (by kernel_rfl) (by kernel_rfl) (fun _ _ _ h => h) (Or.inl ⟨by rfl, ?hy15r5⟩) (by exact hHeld) ?_
              case hy15r5 => (intro w hSw; (try dsimp only at hSw); go_simp; try (with_reducible rfl))
              try simp only [Act.put, List.setIfInBounds_toArray, List.set_cons_zero, List.set_cons_succ]
              refine wpAnyH_ready (rs := [16]) (by kernel_rfl) (by simp) ?_
              refine AllReadyH.cons (o := { dst := some 28, op := Op.call { callee := Callee.value (Operand.func 24), args := #[Operand.tmp 27], argTypes := #[3] }, type := 4, pos := "links.go:14", after := #[{ on := 15, ground := Ground.data }, { on := 13, ground := Ground.chain }, { on := 13, ground := Ground.guard }], guard := some (13, false) }) rfl (fun K hK => ?_) AllReadyH.nil
              go_simp
              go_at_call 24
              refine ((unhide K0) W1.drew B0 S00).mono ?_
              rintro e z1 ⟨rfl, B1, S1⟩
              go_wp2_with fail
              refine hK.out _ _ S1 (fun _ => ?_)
              clear hK K
              try simp only [Act.put, List.setIfInBounds_toArray, List.set_cons_zero, List.set_cons_succ]
              refine wpAnyH_take (i := 17) (oi := { dst := some 29, op := Op.unOp UnOp.not 4 (Operand.tmp 28), type := 4, pos := "links.go:14", after := #[{ on := 16, ground := Ground.data }, { on := 13, ground := Ground.guard }], guard := some (13, false) }) (v := ?v17r5) rfl (by kernel_rfl) (by kernel_rfl) (by kernel_rfl) (fun _ _ _ h => h) (Or.inl ⟨by rfl, ?hy17r5⟩) (by exact S1) ?_
              case hy17r5 => (intro w hSw; (try dsimp only at hSw); go_simp; try (with_reducible rfl))
              try simp only [Act.put, List.setIfInBounds_toArray, List.set_cons_zero, List.set_cons_succ]
              refine wpAnyH_take (i := 18) (oi := { dst := some 30, op := Op.pick (Operand.tmp 25) (Operand.const (Value.bool true)) (Operand.tmp 29), type := 4, pos := "links.go:14", after := #[{ on := 13, ground := Ground.data }, { on := 17, ground := Ground.data }], guard := none }) (v := ?v18r5) rfl (by kernel_rfl) (by kernel_rfl) (by kernel_rfl) (fun _ _ _ h => h) (Or.inl ⟨by rfl, ?hy18r5⟩) (by exact S1) ?_
              case hy18r5 => (intro w hSw; (try dsimp only at hSw); go_simp; try (with_reducible rfl))
              try simp only [Act.put, List.setIfInBounds_toArray, List.set_cons_zero, List.set_cons_succ]
              refine wpAnyH_take (i := 19) (oi := { dst := some 31, op := Op.move (Operand.tmp 30), type := 4, pos := "links.go:14", after := #[{ on := 18, ground := Ground.data }, { on := 16, ground := Ground.chain }], guard := none }) (v := ?v19r5) rfl (by kernel_rfl) (by kernel_rfl) (by kernel_rfl) (fun _ _ _ h => h) (Or.inl ⟨by rfl, ?hy19r5⟩) (by exact S1) ?_
              case hy19r5 => (intro w hSw; (try dsimp only at hSw); go_simp; try (with_reducible rfl))
              try simp only [Act.put, List.setIfInBounds_toArray, List.set_cons_zero, List.set_cons_succ]
              refine wpAnyH_take (i := 20) (oi := { dst := some 32, op := Op.load 73 (Operand.tmp 4), type := 73, pos := "links.go:14", after := #[{ on := 19, ground := Ground.guard }], guard := some (19, false) }) (v := ?v20r5) rfl (by kernel_rfl) (by kernel_rfl) (by kernel_rfl) (fun _ _ _ h => h) (Or.inl ⟨by rfl, ?hy20r5⟩) (by exact S1) ?_
              case hy20r5 => (intro w hSw; (try dsimp only at hSw); go_simp; try (with_reducible rfl))
              try simp only [Act.put, List.setIfInBounds_toArray, List.set_cons_zero, List.set_cons_succ]
              refine wpAnyH_ready (rs := [21]) (by kernel_rfl) (by simp) ?_
              refine AllReadyH.cons (o := { dst := some 33, op := Op.call { callee := Callee.value (Operand.func 34), args := #[Operand.tmp 32], argTypes := #[73] }, type := 4, pos := "links.go:14", after := #[{ on := 20, ground := Ground.data }, { on := 19, ground := Ground.chain }, { on := 19, ground := Ground.guard }], guard := some (19, false) }) rfl (fun K hK => ?_) AllReadyH.nil
              go_simp
              go_at_call 34
              refine ((unhide K1) z1 B1 S1).mono ?_
              rintro e z2 ⟨rfl, B2, S2⟩
              go_wp2_with fail
              refine hK.out _ _ S2 (fun _ => ?_)
              clear hK K
              try simp only [Act.put, List.setIfInBounds_toArray, List.set_cons_zero, List.set_cons_succ]
              refine wpAnyH_take (i := 22) (oi := { dst := some 34, op := Op.unOp UnOp.not 4 (Operand.tmp 33), type := 4, pos := "links.go:14", after := #[{ on := 21, ground := Ground.data }, { on := 19, ground := Ground.guard }], guard := some (19, false) }) (v := ?v22r5) rfl (by kernel_rfl) (by kernel_rfl) (by kernel_rfl) (fun _ _ _ h => h) (Or.inl ⟨by rfl, ?hy22r5⟩) (by exact S2) ?_
              case hy22r5 => (intro w hSw; (try dsimp only at hSw); go_simp; try (with_reducible rfl))
              try simp only [Act.put, List.setIfInBounds_toArray, List.set_cons_zero, List.set_cons_succ]
              refine wpAnyH_take (i := 23) (oi := { dst := some 35, op := Op.pick (Operand.tmp 31) (Operand.const (Value.bool true)) (Operand.tmp 34), type := 4, pos := "links.go:14", after := #[{ on := 19, ground := Ground.data }, { on := 22, ground := Ground.data }], guard := none }) (v := ?v23r5) rfl (by kernel_rfl) (by kernel_rfl) (by kernel_rfl) (fun _ _ _ h => h) (Or.inl ⟨by rfl, ?hy23r5⟩) (by exact S2) ?_
              case hy23r5 => (intro w hSw; (try dsimp only at hSw); go_simp; try (with_reducible rfl))
              try simp only [Act.put, List.setIfInBounds_toArray, List.set_cons_zero, List.set_cons_succ]
              refine wpAnyH_take (i := 24) (oi := { dst := some 36, op := Op.move (Operand.tmp 35), type := 4, pos := "links.go:14", after := #[{ on := 23, ground := Ground.data }, { on := 21, ground := Ground.chain }], guard := none }) (v := ?v24r5) rfl (by kernel_rfl) (by kernel_rfl) (by kernel_rfl) (fun _ _ _ h => h) (Or.inl ⟨by rfl, ?hy24r5⟩) (by exact S2) ?_
              case hy24r5 => (intro w hSw; (try dsimp only at hSw); go_simp; try (with_reducible rfl))
              try simp only [Act.put, List.setIfInBounds_toArray, List.set_cons_zero, List.set_cons_succ]
              refine wpAnyH_take (i := 25) (oi := { dst := some 37, op := Op.load 73 (Operand.tmp 4), type := 73, pos := "links.go:14", after := #[{ on := 24, ground := Ground.guard }], guard := some (24, false) }) (v := ?v25r5) rfl (by kernel_rfl) (by kernel_rfl) (by kernel_rfl) (fun _ _ _ h => h) (Or.inl ⟨by rfl, ?hy25r5⟩) (by exact S2) ?_
              case hy25r5 => (intro w hSw; (try dsimp only at hSw); go_simp; try (with_reducible rfl))
              try simp only [Act.put, List.setIfInBounds_toArray, List.set_cons_zero, List.set_cons_succ]
              refine wpAnyH_ready (rs := [26]) (by kernel_rfl) (by simp) ?_
              refine AllReadyH.cons (o := { dst := some 38, op := Op.call { callee := Callee.value (Operand.func 35), args := #[Operand.tmp 37], argTypes := #[73] }, type := 4, pos := "links.go:14", after := #[{ on := 25, ground := Ground.data }, { on := 24, ground := Ground.chain }, { on := 24, ground := Ground.guard }], guard := some (24, false) }) rfl (fun K hK => ?_) AllReadyH.nil
              go_simp
              go_at_call 35
              refine ((unhide K2) z2 B2 S2).mono ?_
              rintro e z3 ⟨rfl, B3, S3⟩
              go_wp2_with fail
              refine hK.out _ _ S3 (fun _ => ?_)
              clear hK K
              try simp only [Act.put, List.setIfInBounds_toArray, List.set_cons_zero, List.set_cons_succ]
              refine wpAnyH_take (i := 27) (oi := { dst := some 39, op := Op.unOp UnOp.not 4 (Operand.tmp 38), type := 4, pos := "links.go:14", after := #[{ on := 26, ground := Ground.data }, { on := 24, ground := Ground.guard }], guard := some (24, false) }) (v := ?v27r5) rfl (by kernel_rfl) (by kernel_rfl) (by kernel_rfl) (fun _ _ _ h => h) (Or.inl ⟨by rfl, ?hy27r5⟩) (by exact S3) ?_
              case hy27r5 => (intro w hSw; (try dsimp only at hSw); go_simp; try (with_reducible rfl))
              try simp only [Act.put, List.setIfInBounds_toArray, List.set_cons_zero, List.set_cons_succ]
              refine wpAnyH_take (i := 28) (oi := { dst := some 40, op := Op.pick (Operand.tmp 36) (Operand.const (Value.bool true)) (Operand.tmp 39), type := 4, pos := "links.go:14", after := #[{ on := 24, ground := Ground.data }, { on := 27, ground := Ground.data }], guard := none }) (v := ?v28r5) rfl (by kernel_rfl) (by kernel_rfl) (by kernel_rfl) (fun _ _ _ h => h) (Or.inl ⟨by rfl, ?hy28r5⟩) (by exact S3) ?_
              case hy28r5 => (intro w hSw; (try dsimp only at hSw); go_simp; try (with_reducible rfl))
              try simp only [Act.put, List.setIfInBounds_toArray, List.set_cons_zero, List.set_cons_succ]
              refine wpAnyH_done (by kernel_rfl) ?_ _
              clear S0 S00 S1 S2 S3
              cases be with
              | false =>
                have HR1 := hide (unhide HB3 rfl)
                go_wp2_with fail
                go_ret
                exact ⟨by rw [unhide HR1]; rfl, unhide B3⟩
              | true =>
                have HNX := hide (unhide HB4 rfl)
                go_wp2_with fail
                go_roundw
                case rel => exact ⟨i + 1, by omega, by go_num, unhide B3, unhide HNX⟩
                case measure => simp only [intOf]; omega
          · have hdb : decide (0 ≤ pe ∧ pe < 4) = false := decide_eq_false hsv
            rw [hdb] at K0
            have HR1 : Hid (r = false) := unhide HB i hlt (fun ho => by
              have := (ho p hp).1
              have h2 := this.1; rw [← hpe] at h2; exact hsv h2)
            clear hdb hp hr HB HOK hbs hbe hpe
            have S0 : W1.cell? ⟨wr.heap.size, 0, none⟩ = some (.int .i64 pe) ∧ W1.cell? ⟨wr.heap.size, 1, none⟩ = some (.int .i64 nx) ∧ W1.cell? ⟨wr.heap.size, 2, none⟩ = some (.slice aq NQ cq) ∧ W1.cell? ⟨wr.heap.size, 3, none⟩ = some (.int .i64 exn) ∧ W1.cell? ⟨wr.heap.size, 4, none⟩ = some (.slice ae NE ce) ∧ W1.cell? ⟨gb, o + i' * 5, none⟩ = some (.int .i64 qp) := s0
            have S00 : W1.drew.cell? ⟨wr.heap.size, 0, none⟩ = some (.int .i64 pe) ∧ W1.drew.cell? ⟨wr.heap.size, 1, none⟩ = some (.int .i64 nx) ∧ W1.drew.cell? ⟨wr.heap.size, 2, none⟩ = some (.slice aq NQ cq) ∧ W1.drew.cell? ⟨wr.heap.size, 3, none⟩ = some (.int .i64 exn) ∧ W1.drew.cell? ⟨wr.heap.size, 4, none⟩ = some (.slice ae NE ce) ∧ W1.drew.cell? ⟨gb, o + i' * 5, none⟩ = some (.int .i64 qp) := s0
            clear s0
            go_upto_region 4 with fail
            rw [← unhide HW]
            clear HW f0
            refine wp_region_held_drew (S := fun w' : World => w'.cell? ⟨wr.heap.size, 0, none⟩ = some (.int .i64 pe) ∧ w'.cell? ⟨wr.heap.size, 1, none⟩ = some (.int .i64 nx) ∧ w'.cell? ⟨wr.heap.size, 2, none⟩ = some (.slice aq NQ cq) ∧ w'.cell? ⟨wr.heap.size, 3, none⟩ = some (.int .i64 exn) ∧ w'.cell? ⟨wr.heap.size, 4, none⟩ = some (.slice ae NE ce) ∧ w'.cell? ⟨gb, o + i' * 5, none⟩ = some (.int .i64 qp)) (by kernel_rfl) S0 (fun hHeld => ?_)
            refine wpAnyH_take (i := 0) (oi := { dst := some 12, op := Op.move (Operand.tmp 3), type := 3, pos := "links.go:14", after := #[], guard := none }) (v := ?v0r6) rfl (by kernel_rfl) (by kernel_rfl) (by kernel_rfl) (fun _ _ _ h => h) (Or.inl ⟨by rfl, ?hy0r6⟩) (by exact hHeld) ?_
            case hy0r6 => (intro w hSw; (try dsimp only at hSw); go_simp; try (with_reducible rfl))
            try simp only [Act.put, List.setIfInBounds_toArray, List.set_cons_zero, List.set_cons_succ]
            refine wpAnyH_take (i := 1) (oi := { dst := some 13, op := Op.binOp BinOp.gtr 3 (Operand.tmp 12) (Operand.const (Value.int IntKind.i64 0)) 3, type := 4, pos := "links.go:14", after := #[{ on := 0, ground := Ground.data }], guard := none }) (v := ?v1r6) rfl (by kernel_rfl) (by kernel_rfl) (by kernel_rfl) (fun _ _ _ h => h) (Or.inl ⟨by rfl, ?hy1r6⟩) (by exact hHeld) ?_
            case hy1r6 => (intro w hSw; (try dsimp only at hSw); go_simp; try (with_reducible rfl))
            try simp only [Act.put, List.setIfInBounds_toArray, List.set_cons_zero, List.set_cons_succ]
            refine wpAnyH_take (i := 2) (oi := { dst := some 14, op := Op.move (Operand.tmp 13), type := 4, pos := "links.go:14", after := #[{ on := 1, ground := Ground.data }], guard := none }) (v := ?v2r6) rfl (by kernel_rfl) (by kernel_rfl) (by kernel_rfl) (fun _ _ _ h => h) (Or.inl ⟨by rfl, ?hy2r6⟩) (by exact hHeld) ?_
            case hy2r6 => (intro w hSw; (try dsimp only at hSw); go_simp; try (with_reducible rfl))
            try simp only [Act.put, List.setIfInBounds_toArray, List.set_cons_zero, List.set_cons_succ]
            refine wpAnyH_take (i := 3) (oi := { dst := some 15, op := Op.move (Operand.tmp 0), type := 22, pos := "links.go:14", after := #[{ on := 2, ground := Ground.guard }], guard := some (2, true) }) (v := ?v3r6) rfl (by kernel_rfl) (by kernel_rfl) (by kernel_rfl) (fun _ _ _ h => h) (Or.inl ⟨by rfl, ?hy3r6⟩) (by exact hHeld) ?_
            case hy3r6 => (intro w hSw; (try dsimp only at hSw); go_simp; try (with_reducible rfl))
            try simp only [Act.put, List.setIfInBounds_toArray, List.set_cons_zero, List.set_cons_succ]
            refine wpAnyH_take (i := 4) (oi := { dst := some 16, op := Op.move (Operand.tmp 3), type := 3, pos := "links.go:14", after := #[{ on := 2, ground := Ground.guard }], guard := some (2, true) }) (v := ?v4r6) rfl (by kernel_rfl) (by kernel_rfl) (by kernel_rfl) (fun _ _ _ h => h) (Or.inl ⟨by rfl, ?hy4r6⟩) (by exact hHeld) ?_
            case hy4r6 => (intro w hSw; (try dsimp only at hSw); go_simp; try (with_reducible rfl))
            try simp only [Act.put, List.setIfInBounds_toArray, List.set_cons_zero, List.set_cons_succ]
            refine wpAnyH_take (i := 5) (oi := { dst := some 17, op := Op.binOp BinOp.sub 3 (Operand.tmp 16) (Operand.const (Value.int IntKind.i64 1)) 3, type := 3, pos := "links.go:14", after := #[{ on := 4, ground := Ground.data }, { on := 2, ground := Ground.guard }], guard := some (2, true) }) (v := ?v5r6) rfl (by kernel_rfl) (by kernel_rfl) (by kernel_rfl) (fun _ _ _ h => h) (Or.inl ⟨by rfl, ?hy5r6⟩) (by exact hHeld) ?_
            case hy5r6 => (intro w hSw; (try dsimp only at hSw); go_simp; try (with_reducible rfl))
            try simp only [Act.put, List.setIfInBounds_toArray, List.set_cons_zero, List.set_cons_succ]
            refine wpAnyH_take (i := 6) (oi := { dst := some 18, op := Op.indexAddr 22 (Operand.tmp 15) (Operand.tmp 17), type := 0, pos := "links.go:14", after := #[{ on := 3, ground := Ground.data }, { on := 5, ground := Ground.data }, { on := 2, ground := Ground.guard }], guard := some (2, true) }) (v := ?v6r6) rfl (by kernel_rfl) (by kernel_rfl) (by kernel_rfl) (fun _ _ _ h => h) (Or.inl ⟨by rfl, ?hy6r6⟩) (by exact hHeld) ?_
            case hy6r6 => (intro w hSw; (try dsimp only at hSw); go_simp; try (with_reducible rfl))
            try simp only [Act.put, List.setIfInBounds_toArray, List.set_cons_zero, List.set_cons_succ]
            refine wpAnyH_take (i := 7) (oi := { dst := some 19, op := Op.fieldAddr 73 (Operand.tmp 18) 0, type := 0, pos := "links.go:14", after := #[{ on := 6, ground := Ground.data }, { on := 2, ground := Ground.guard }], guard := some (2, true) }) (v := ?v7r6) rfl (by kernel_rfl) (by kernel_rfl) (by kernel_rfl) (fun _ _ _ h => h) (Or.inl ⟨by rfl, ?hy7r6⟩) (by exact hHeld) ?_
            case hy7r6 => (intro w hSw; (try dsimp only at hSw); go_simp; try (with_reducible rfl))
            try simp only [Act.put, List.setIfInBounds_toArray, List.set_cons_zero, List.set_cons_succ]
            refine wpAnyH_take (i := 8) (oi := { dst := some 20, op := Op.load 3 (Operand.tmp 19), type := 3, pos := "links.go:14", after := #[{ on := 7, ground := Ground.data }, { on := 2, ground := Ground.guard }], guard := some (2, true) }) (v := ?v8r6) rfl (by kernel_rfl) (by kernel_rfl) (by kernel_rfl) (fun _ _ _ h => h) (Or.inl ⟨by rfl, ?hy8r6⟩) (by exact hHeld) ?_
            case hy8r6 => (intro w hSw; (try dsimp only at hSw); go_simp; try (with_reducible rfl))
            try simp only [Act.put, List.setIfInBounds_toArray, List.set_cons_zero, List.set_cons_succ]
            refine wpAnyH_take (i := 9) (oi := { dst := some 21, op := Op.fieldAddr 73 (Operand.tmp 4) 0, type := 0, pos := "links.go:14", after := #[{ on := 2, ground := Ground.guard }], guard := some (2, true) }) (v := ?v9r6) rfl (by kernel_rfl) (by kernel_rfl) (by kernel_rfl) (fun _ _ _ h => h) (Or.inl ⟨by rfl, ?hy9r6⟩) (by exact hHeld) ?_
            case hy9r6 => (intro w hSw; (try dsimp only at hSw); go_simp; try (with_reducible rfl))
            try simp only [Act.put, List.setIfInBounds_toArray, List.set_cons_zero, List.set_cons_succ]
            refine wpAnyH_take (i := 10) (oi := { dst := some 22, op := Op.load 3 (Operand.tmp 21), type := 3, pos := "links.go:14", after := #[{ on := 9, ground := Ground.data }, { on := 2, ground := Ground.guard }], guard := some (2, true) }) (v := ?v10r6) rfl (by kernel_rfl) (by kernel_rfl) (by kernel_rfl) (fun _ _ _ h => h) (Or.inl ⟨by rfl, ?hy10r6⟩) (by exact hHeld) ?_
            case hy10r6 => (intro w hSw; (try dsimp only at hSw); go_simp; try (with_reducible rfl))
            try simp only [Act.put, List.setIfInBounds_toArray, List.set_cons_zero, List.set_cons_succ]
            refine wpAnyH_take (i := 11) (oi := { dst := some 23, op := Op.binOp BinOp.geq 3 (Operand.tmp 20) (Operand.tmp 22) 3, type := 4, pos := "links.go:14", after := #[{ on := 8, ground := Ground.data }, { on := 10, ground := Ground.data }, { on := 2, ground := Ground.guard }], guard := some (2, true) }) (v := ?v11r6) rfl (by kernel_rfl) (by kernel_rfl) (by kernel_rfl) (fun _ _ _ h => h) (Or.inl ⟨by rfl, ?hy11r6⟩) (by exact hHeld) ?_
            case hy11r6 => (intro w hSw; (try dsimp only at hSw); go_simp; try (with_reducible rfl))
            try simp only [Act.put, List.setIfInBounds_toArray, List.set_cons_zero, List.set_cons_succ]
            refine wpAnyH_take (i := 12) (oi := { dst := some 24, op := Op.pick (Operand.tmp 14) (Operand.tmp 23) (Operand.const (Value.bool false)), type := 4, pos := "links.go:14", after := #[{ on := 2, ground := Ground.data }, { on := 11, ground := Ground.data }], guard := none }) (v := ?v12r6) rfl (by kernel_rfl) (by kernel_rfl) (by kernel_rfl) (fun _ _ _ h => h) (Or.inl ⟨by rfl, ?hy12r6⟩) (by exact hHeld) ?_
            case hy12r6 => (intro w hSw; (try dsimp only at hSw); go_simp; try (with_reducible rfl))
            try simp only [Act.put, List.setIfInBounds_toArray, List.set_cons_zero, List.set_cons_succ]
            refine wpAnyH_take (i := 13) (oi := { dst := some 25, op := Op.move (Operand.tmp 24), type := 4, pos := "links.go:14", after := #[{ on := 12, ground := Ground.data }, { on := 2, ground := Ground.chain }], guard := none }) (v := ?v13r6) rfl (by kernel_rfl) (by kernel_rfl) (by kernel_rfl) (fun _ _ _ h => h) (Or.inl ⟨by rfl, ?hy13r6⟩) (by exact hHeld) ?_
            case hy13r6 => (intro w hSw; (try dsimp only at hSw); go_simp; try (with_reducible rfl))
            try simp only [Act.put, List.setIfInBounds_toArray, List.set_cons_zero, List.set_cons_succ]
            refine wpAnyH_take (i := 14) (oi := { dst := some 26, op := Op.fieldAddr 73 (Operand.tmp 4) 0, type := 0, pos := "links.go:14", after := #[{ on := 13, ground := Ground.guard }], guard := some (13, false) }) (v := ?v14r6) rfl (by kernel_rfl) (by kernel_rfl) (by kernel_rfl) (fun _ _ _ h => h) (Or.inl ⟨by rfl, ?hy14r6⟩) (by exact hHeld) ?_
            case hy14r6 => (intro w hSw; (try dsimp only at hSw); go_simp; try (with_reducible rfl))
            try simp only [Act.put, List.setIfInBounds_toArray, List.set_cons_zero, List.set_cons_succ]
            refine wpAnyH_take (i := 15) (oi := { dst := some 27, op := Op.load 3 (Operand.tmp 26), type := 3, pos := "links.go:14", after := #[{ on := 14, ground := Ground.data }, { on := 13, ground := Ground.guard }], guard := some (13, false) }) (v := ?v15r6) rfl (by kernel_rfl) (by kernel_rfl) (by kernel_rfl) (fun _ _ _ h => h) (Or.inl ⟨by rfl, ?hy15r6⟩) (by exact hHeld) ?_
            case hy15r6 => (intro w hSw; (try dsimp only at hSw); go_simp; try (with_reducible rfl))
            try simp only [Act.put, List.setIfInBounds_toArray, List.set_cons_zero, List.set_cons_succ]
            refine wpAnyH_ready (rs := [16]) (by kernel_rfl) (by simp) ?_
            refine AllReadyH.cons (o := { dst := some 28, op := Op.call { callee := Callee.value (Operand.func 24), args := #[Operand.tmp 27], argTypes := #[3] }, type := 4, pos := "links.go:14", after := #[{ on := 15, ground := Ground.data }, { on := 13, ground := Ground.chain }, { on := 13, ground := Ground.guard }], guard := some (13, false) }) rfl (fun K hK => ?_) AllReadyH.nil
            go_simp
            go_at_call 24
            refine ((unhide K0) W1.drew B0 S00).mono ?_
            rintro e z1 ⟨rfl, B1, S1⟩
            go_wp2_with fail
            refine hK.out _ _ S1 (fun _ => ?_)
            clear hK K
            try simp only [Act.put, List.setIfInBounds_toArray, List.set_cons_zero, List.set_cons_succ]
            refine wpAnyH_take (i := 17) (oi := { dst := some 29, op := Op.unOp UnOp.not 4 (Operand.tmp 28), type := 4, pos := "links.go:14", after := #[{ on := 16, ground := Ground.data }, { on := 13, ground := Ground.guard }], guard := some (13, false) }) (v := ?v17r6) rfl (by kernel_rfl) (by kernel_rfl) (by kernel_rfl) (fun _ _ _ h => h) (Or.inl ⟨by rfl, ?hy17r6⟩) (by exact S1) ?_
            case hy17r6 => (intro w hSw; (try dsimp only at hSw); go_simp; try (with_reducible rfl))
            try simp only [Act.put, List.setIfInBounds_toArray, List.set_cons_zero, List.set_cons_succ]
            refine wpAnyH_take (i := 18) (oi := { dst := some 30, op := Op.pick (Operand.tmp 25) (Operand.const (Value.bool true)) (Operand.tmp 29), type := 4, pos := "links.go:14", after := #[{ on := 13, ground := Ground.data }, { on := 17, ground := Ground.data }], guard := none }) (v := ?v18r6) rfl (by kernel_rfl) (by kernel_rfl) (by kernel_rfl) (fun _ _ _ h => h) (Or.inl ⟨by rfl, ?hy18r6⟩) (by exact S1) ?_
            case hy18r6 => (intro w hSw; (try dsimp only at hSw); go_simp; try (with_reducible rfl))
            try simp only [Act.put, List.setIfInBounds_toArray, List.set_cons_zero, List.set_cons_succ]
            refine wpAnyH_take (i := 19) (oi := { dst := some 31, op := Op.move (Operand.tmp 30), type := 4, pos := "links.go:14", after := #[{ on := 18, ground := Ground.data }, { on := 16, ground := Ground.chain }], guard := none }) (v := ?v19r6) rfl (by kernel_rfl) (by kernel_rfl) (by kernel_rfl) (fun _ _ _ h => h) (Or.inl ⟨by rfl, ?hy19r6⟩) (by exact S1) ?_
            case hy19r6 => (intro w hSw; (try dsimp only at hSw); go_simp; try (with_reducible rfl))
            try simp only [Act.put, List.setIfInBounds_toArray, List.set_cons_zero, List.set_cons_succ]
            refine wpAnyH_take (i := 20) (oi := { dst := some 32, op := Op.load 73 (Operand.tmp 4), type := 73, pos := "links.go:14", after := #[{ on := 19, ground := Ground.guard }], guard := some (19, false) }) (v := undef) rfl (by kernel_rfl) (by kernel_rfl) (by kernel_rfl) (fun _ _ _ h => h) (Or.inr ⟨by rfl, rfl⟩) (by exact S1) ?_
            try simp only [Act.put, List.setIfInBounds_toArray, List.set_cons_zero, List.set_cons_succ]
            refine wpAnyH_take (i := 21) (oi := { dst := some 33, op := Op.call { callee := Callee.value (Operand.func 34), args := #[Operand.tmp 32], argTypes := #[73] }, type := 4, pos := "links.go:14", after := #[{ on := 20, ground := Ground.data }, { on := 19, ground := Ground.chain }, { on := 19, ground := Ground.guard }], guard := some (19, false) }) (v := undef) rfl (by kernel_rfl) (by kernel_rfl) (by kernel_rfl) (fun _ _ _ h => h) (Or.inr ⟨by rfl, rfl⟩) (by exact S1) ?_
            try simp only [Act.put, List.setIfInBounds_toArray, List.set_cons_zero, List.set_cons_succ]
            refine wpAnyH_take (i := 22) (oi := { dst := some 34, op := Op.unOp UnOp.not 4 (Operand.tmp 33), type := 4, pos := "links.go:14", after := #[{ on := 21, ground := Ground.data }, { on := 19, ground := Ground.guard }], guard := some (19, false) }) (v := undef) rfl (by kernel_rfl) (by kernel_rfl) (by kernel_rfl) (fun _ _ _ h => h) (Or.inr ⟨by rfl, rfl⟩) (by exact S1) ?_
            try simp only [Act.put, List.setIfInBounds_toArray, List.set_cons_zero, List.set_cons_succ]
            refine wpAnyH_take (i := 23) (oi := { dst := some 35, op := Op.pick (Operand.tmp 31) (Operand.const (Value.bool true)) (Operand.tmp 34), type := 4, pos := "links.go:14", after := #[{ on := 19, ground := Ground.data }, { on := 22, ground := Ground.data }], guard := none }) (v := ?v23r6) rfl (by kernel_rfl) (by kernel_rfl) (by kernel_rfl) (fun _ _ _ h => h) (Or.inl ⟨by rfl, ?hy23r6⟩) (by exact S1) ?_
            case hy23r6 => (intro w hSw; (try dsimp only at hSw); go_simp; try (with_reducible rfl))
            try simp only [Act.put, List.setIfInBounds_toArray, List.set_cons_zero, List.set_cons_succ]
            refine wpAnyH_take (i := 24) (oi := { dst := some 36, op := Op.move (Operand.tmp 35), type := 4, pos := "links.go:14", after := #[{ on := 23, ground := Ground.data }, { on := 21, ground := Ground.chain }], guard := none }) (v := ?v24r6) rfl (by kernel_rfl) (by kernel_rfl) (by kernel_rfl) (fun _ _ _ h => h) (Or.inl ⟨by rfl, ?hy24r6⟩) (by exact S1) ?_
            case hy24r6 => (intro w hSw; (try dsimp only at hSw); go_simp; try (with_reducible rfl))
            try simp only [Act.put, List.setIfInBounds_toArray, List.set_cons_zero, List.set_cons_succ]
            refine wpAnyH_take (i := 25) (oi := { dst := some 37, op := Op.load 73 (Operand.tmp 4), type := 73, pos := "links.go:14", after := #[{ on := 24, ground := Ground.guard }], guard := some (24, false) }) (v := undef) rfl (by kernel_rfl) (by kernel_rfl) (by kernel_rfl) (fun _ _ _ h => h) (Or.inr ⟨by rfl, rfl⟩) (by exact S1) ?_
            try simp only [Act.put, List.setIfInBounds_toArray, List.set_cons_zero, List.set_cons_succ]
            refine wpAnyH_take (i := 26) (oi := { dst := some 38, op := Op.call { callee := Callee.value (Operand.func 35), args := #[Operand.tmp 37], argTypes := #[73] }, type := 4, pos := "links.go:14", after := #[{ on := 25, ground := Ground.data }, { on := 24, ground := Ground.chain }, { on := 24, ground := Ground.guard }], guard := some (24, false) }) (v := undef) rfl (by kernel_rfl) (by kernel_rfl) (by kernel_rfl) (fun _ _ _ h => h) (Or.inr ⟨by rfl, rfl⟩) (by exact S1) ?_
            try simp only [Act.put, List.setIfInBounds_toArray, List.set_cons_zero, List.set_cons_succ]
            refine wpAnyH_take (i := 27) (oi := { dst := some 39, op := Op.unOp UnOp.not 4 (Operand.tmp 38), type := 4, pos := "links.go:14", after := #[{ on := 26, ground := Ground.data }, { on := 24, ground := Ground.guard }], guard := some (24, false) }) (v := undef) rfl (by kernel_rfl) (by kernel_rfl) (by kernel_rfl) (fun _ _ _ h => h) (Or.inr ⟨by rfl, rfl⟩) (by exact S1) ?_
            try simp only [Act.put, List.setIfInBounds_toArray, List.set_cons_zero, List.set_cons_succ]
            refine wpAnyH_take (i := 28) (oi := { dst := some 40, op := Op.pick (Operand.tmp 36) (Operand.const (Value.bool true)) (Operand.tmp 39), type := 4, pos := "links.go:14", after := #[{ on := 24, ground := Ground.data }, { on := 27, ground := Ground.data }], guard := none }) (v := ?v28r6) rfl (by kernel_rfl) (by kernel_rfl) (by kernel_rfl) (fun _ _ _ h => h) (Or.inl ⟨by rfl, ?hy28r6⟩) (by exact S1) ?_
            case hy28r6 => (intro w hSw; (try dsimp only at hSw); go_simp; try (with_reducible rfl))
            try simp only [Act.put, List.setIfInBounds_toArray, List.set_cons_zero, List.set_cons_succ]
            refine wpAnyH_done (by kernel_rfl) ?_ _
            clear S0 S00 S1
            go_wp2_with fail
            go_ret
            exact ⟨by rw [unhide HR1]; rfl, unhide B1⟩
        · have HR1 : Hid (r = false) := unhide HB i hlt (fun ho => by
            have := (ho p hp).2 q i' (by omega) hq
            rw [← hqp, ← hpe] at this
            exact hqq this)
          have v5 : pe ≤ qp := by omega
          have v6 : decide (pe ≤ qp) = true := decide_eq_true v5
          clear hq hqp hi' hqq hp hr HB HOK hbs hbe hpe K0 K1 K2
          have S0 : W1.cell? ⟨wr.heap.size, 0, none⟩ = some (.int .i64 pe) ∧ W1.cell? ⟨wr.heap.size, 1, none⟩ = some (.int .i64 nx) ∧ W1.cell? ⟨wr.heap.size, 2, none⟩ = some (.slice aq NQ cq) ∧ W1.cell? ⟨wr.heap.size, 3, none⟩ = some (.int .i64 exn) ∧ W1.cell? ⟨wr.heap.size, 4, none⟩ = some (.slice ae NE ce) ∧ W1.cell? ⟨gb, o + i' * 5, none⟩ = some (.int .i64 qp) := s0
          have S00 : W1.drew.cell? ⟨wr.heap.size, 0, none⟩ = some (.int .i64 pe) ∧ W1.drew.cell? ⟨wr.heap.size, 1, none⟩ = some (.int .i64 nx) ∧ W1.drew.cell? ⟨wr.heap.size, 2, none⟩ = some (.slice aq NQ cq) ∧ W1.drew.cell? ⟨wr.heap.size, 3, none⟩ = some (.int .i64 exn) ∧ W1.drew.cell? ⟨wr.heap.size, 4, none⟩ = some (.slice ae NE ce) ∧ W1.drew.cell? ⟨gb, o + i' * 5, none⟩ = some (.int .i64 qp) := s0
          clear s0
          go_upto_region 4 with fail
          rw [← unhide HW]
          clear HW f0
          refine wp_region_held_drew (S := fun w' : World => w'.cell? ⟨wr.heap.size, 0, none⟩ = some (.int .i64 pe) ∧ w'.cell? ⟨wr.heap.size, 1, none⟩ = some (.int .i64 nx) ∧ w'.cell? ⟨wr.heap.size, 2, none⟩ = some (.slice aq NQ cq) ∧ w'.cell? ⟨wr.heap.size, 3, none⟩ = some (.int .i64 exn) ∧ w'.cell? ⟨wr.heap.size, 4, none⟩ = some (.slice ae NE ce) ∧ w'.cell? ⟨gb, o + i' * 5, none⟩ = some (.int .i64 qp)) (by kernel_rfl) S0 (fun hHeld => ?_)
          refine wpAnyH_take (i := 0) (oi := { dst := some 12, op := Op.move (Operand.tmp 3), type := 3, pos := "links.go:14", after := #[], guard := none }) (v := ?v0r7) rfl (by kernel_rfl) (by kernel_rfl) (by kernel_rfl) (fun _ _ _ h => h) (Or.inl ⟨by rfl, ?hy0r7⟩) (by exact hHeld) ?_
          case hy0r7 => (intro w hSw; (try dsimp only at hSw); go_simp; try (with_reducible rfl))
          try simp only [Act.put, List.setIfInBounds_toArray, List.set_cons_zero, List.set_cons_succ]
          refine wpAnyH_take (i := 1) (oi := { dst := some 13, op := Op.binOp BinOp.gtr 3 (Operand.tmp 12) (Operand.const (Value.int IntKind.i64 0)) 3, type := 4, pos := "links.go:14", after := #[{ on := 0, ground := Ground.data }], guard := none }) (v := ?v1r7) rfl (by kernel_rfl) (by kernel_rfl) (by kernel_rfl) (fun _ _ _ h => h) (Or.inl ⟨by rfl, ?hy1r7⟩) (by exact hHeld) ?_
          case hy1r7 => (intro w hSw; (try dsimp only at hSw); go_simp; try (with_reducible rfl))
          try simp only [Act.put, List.setIfInBounds_toArray, List.set_cons_zero, List.set_cons_succ]
          refine wpAnyH_take (i := 2) (oi := { dst := some 14, op := Op.move (Operand.tmp 13), type := 4, pos := "links.go:14", after := #[{ on := 1, ground := Ground.data }], guard := none }) (v := ?v2r7) rfl (by kernel_rfl) (by kernel_rfl) (by kernel_rfl) (fun _ _ _ h => h) (Or.inl ⟨by rfl, ?hy2r7⟩) (by exact hHeld) ?_
          case hy2r7 => (intro w hSw; (try dsimp only at hSw); go_simp; try (with_reducible rfl))
          try simp only [Act.put, List.setIfInBounds_toArray, List.set_cons_zero, List.set_cons_succ]
          refine wpAnyH_take (i := 3) (oi := { dst := some 15, op := Op.move (Operand.tmp 0), type := 22, pos := "links.go:14", after := #[{ on := 2, ground := Ground.guard }], guard := some (2, true) }) (v := ?v3r7) rfl (by kernel_rfl) (by kernel_rfl) (by kernel_rfl) (fun _ _ _ h => h) (Or.inl ⟨by rfl, ?hy3r7⟩) (by exact hHeld) ?_
          case hy3r7 => (intro w hSw; (try dsimp only at hSw); go_simp; try (with_reducible rfl))
          try simp only [Act.put, List.setIfInBounds_toArray, List.set_cons_zero, List.set_cons_succ]
          refine wpAnyH_take (i := 4) (oi := { dst := some 16, op := Op.move (Operand.tmp 3), type := 3, pos := "links.go:14", after := #[{ on := 2, ground := Ground.guard }], guard := some (2, true) }) (v := ?v4r7) rfl (by kernel_rfl) (by kernel_rfl) (by kernel_rfl) (fun _ _ _ h => h) (Or.inl ⟨by rfl, ?hy4r7⟩) (by exact hHeld) ?_
          case hy4r7 => (intro w hSw; (try dsimp only at hSw); go_simp; try (with_reducible rfl))
          try simp only [Act.put, List.setIfInBounds_toArray, List.set_cons_zero, List.set_cons_succ]
          refine wpAnyH_take (i := 5) (oi := { dst := some 17, op := Op.binOp BinOp.sub 3 (Operand.tmp 16) (Operand.const (Value.int IntKind.i64 1)) 3, type := 3, pos := "links.go:14", after := #[{ on := 4, ground := Ground.data }, { on := 2, ground := Ground.guard }], guard := some (2, true) }) (v := ?v5r7) rfl (by kernel_rfl) (by kernel_rfl) (by kernel_rfl) (fun _ _ _ h => h) (Or.inl ⟨by rfl, ?hy5r7⟩) (by exact hHeld) ?_
          case hy5r7 => (intro w hSw; (try dsimp only at hSw); go_simp; try (with_reducible rfl))
          try simp only [Act.put, List.setIfInBounds_toArray, List.set_cons_zero, List.set_cons_succ]
          refine wpAnyH_take (i := 6) (oi := { dst := some 18, op := Op.indexAddr 22 (Operand.tmp 15) (Operand.tmp 17), type := 0, pos := "links.go:14", after := #[{ on := 3, ground := Ground.data }, { on := 5, ground := Ground.data }, { on := 2, ground := Ground.guard }], guard := some (2, true) }) (v := ?v6r7) rfl (by kernel_rfl) (by kernel_rfl) (by kernel_rfl) (fun _ _ _ h => h) (Or.inl ⟨by rfl, ?hy6r7⟩) (by exact hHeld) ?_
          case hy6r7 => (intro w hSw; (try dsimp only at hSw); go_simp; try (with_reducible rfl))
          try simp only [Act.put, List.setIfInBounds_toArray, List.set_cons_zero, List.set_cons_succ]
          refine wpAnyH_take (i := 7) (oi := { dst := some 19, op := Op.fieldAddr 73 (Operand.tmp 18) 0, type := 0, pos := "links.go:14", after := #[{ on := 6, ground := Ground.data }, { on := 2, ground := Ground.guard }], guard := some (2, true) }) (v := ?v7r7) rfl (by kernel_rfl) (by kernel_rfl) (by kernel_rfl) (fun _ _ _ h => h) (Or.inl ⟨by rfl, ?hy7r7⟩) (by exact hHeld) ?_
          case hy7r7 => (intro w hSw; (try dsimp only at hSw); go_simp; try (with_reducible rfl))
          try simp only [Act.put, List.setIfInBounds_toArray, List.set_cons_zero, List.set_cons_succ]
          refine wpAnyH_take (i := 8) (oi := { dst := some 20, op := Op.load 3 (Operand.tmp 19), type := 3, pos := "links.go:14", after := #[{ on := 7, ground := Ground.data }, { on := 2, ground := Ground.guard }], guard := some (2, true) }) (v := ?v8r7) rfl (by kernel_rfl) (by kernel_rfl) (by kernel_rfl) (fun _ _ _ h => h) (Or.inl ⟨by rfl, ?hy8r7⟩) (by exact hHeld) ?_
          case hy8r7 => (intro w hSw; (try dsimp only at hSw); go_simp; try (with_reducible rfl))
          try simp only [Act.put, List.setIfInBounds_toArray, List.set_cons_zero, List.set_cons_succ]
          refine wpAnyH_take (i := 9) (oi := { dst := some 21, op := Op.fieldAddr 73 (Operand.tmp 4) 0, type := 0, pos := "links.go:14", after := #[{ on := 2, ground := Ground.guard }], guard := some (2, true) }) (v := ?v9r7) rfl (by kernel_rfl) (by kernel_rfl) (by kernel_rfl) (fun _ _ _ h => h) (Or.inl ⟨by rfl, ?hy9r7⟩) (by exact hHeld) ?_
          case hy9r7 => (intro w hSw; (try dsimp only at hSw); go_simp; try (with_reducible rfl))
          try simp only [Act.put, List.setIfInBounds_toArray, List.set_cons_zero, List.set_cons_succ]
          refine wpAnyH_take (i := 10) (oi := { dst := some 22, op := Op.load 3 (Operand.tmp 21), type := 3, pos := "links.go:14", after := #[{ on := 9, ground := Ground.data }, { on := 2, ground := Ground.guard }], guard := some (2, true) }) (v := ?v10r7) rfl (by kernel_rfl) (by kernel_rfl) (by kernel_rfl) (fun _ _ _ h => h) (Or.inl ⟨by rfl, ?hy10r7⟩) (by exact hHeld) ?_
          case hy10r7 => (intro w hSw; (try dsimp only at hSw); go_simp; try (with_reducible rfl))
          try simp only [Act.put, List.setIfInBounds_toArray, List.set_cons_zero, List.set_cons_succ]
          refine wpAnyH_take (i := 11) (oi := { dst := some 23, op := Op.binOp BinOp.geq 3 (Operand.tmp 20) (Operand.tmp 22) 3, type := 4, pos := "links.go:14", after := #[{ on := 8, ground := Ground.data }, { on := 10, ground := Ground.data }, { on := 2, ground := Ground.guard }], guard := some (2, true) }) (v := ?v11r7) rfl (by kernel_rfl) (by kernel_rfl) (by kernel_rfl) (fun _ _ _ h => h) (Or.inl ⟨by rfl, ?hy11r7⟩) (by exact hHeld) ?_
          case hy11r7 => (intro w hSw; (try dsimp only at hSw); go_simp; try (with_reducible rfl))
          try simp only [Act.put, List.setIfInBounds_toArray, List.set_cons_zero, List.set_cons_succ]
          refine wpAnyH_take (i := 12) (oi := { dst := some 24, op := Op.pick (Operand.tmp 14) (Operand.tmp 23) (Operand.const (Value.bool false)), type := 4, pos := "links.go:14", after := #[{ on := 2, ground := Ground.data }, { on := 11, ground := Ground.data }], guard := none }) (v := ?v12r7) rfl (by kernel_rfl) (by kernel_rfl) (by kernel_rfl) (fun _ _ _ h => h) (Or.inl ⟨by rfl, ?hy12r7⟩) (by exact hHeld) ?_
          case hy12r7 => (intro w hSw; (try dsimp only at hSw); go_simp; try (with_reducible rfl))
          try simp only [Act.put, List.setIfInBounds_toArray, List.set_cons_zero, List.set_cons_succ]
          refine wpAnyH_take (i := 13) (oi := { dst := some 25, op := Op.move (Operand.tmp 24), type := 4, pos := "links.go:14", after := #[{ on := 12, ground := Ground.data }, { on := 2, ground := Ground.chain }], guard := none }) (v := ?v13r7) rfl (by kernel_rfl) (by kernel_rfl) (by kernel_rfl) (fun _ _ _ h => h) (Or.inl ⟨by rfl, ?hy13r7⟩) (by exact hHeld) ?_
          case hy13r7 => (intro w hSw; (try dsimp only at hSw); go_simp; try (with_reducible rfl))
          try simp only [Act.put, List.setIfInBounds_toArray, List.set_cons_zero, List.set_cons_succ]
          refine wpAnyH_take (i := 14) (oi := { dst := some 26, op := Op.fieldAddr 73 (Operand.tmp 4) 0, type := 0, pos := "links.go:14", after := #[{ on := 13, ground := Ground.guard }], guard := some (13, false) }) (v := undef) rfl (by kernel_rfl) (by kernel_rfl) (by kernel_rfl) (fun _ _ _ h => h) (Or.inr ⟨by rfl, rfl⟩) (by exact hHeld) ?_
          try simp only [Act.put, List.setIfInBounds_toArray, List.set_cons_zero, List.set_cons_succ]
          refine wpAnyH_take (i := 15) (oi := { dst := some 27, op := Op.load 3 (Operand.tmp 26), type := 3, pos := "links.go:14", after := #[{ on := 14, ground := Ground.data }, { on := 13, ground := Ground.guard }], guard := some (13, false) }) (v := undef) rfl (by kernel_rfl) (by kernel_rfl) (by kernel_rfl) (fun _ _ _ h => h) (Or.inr ⟨by rfl, rfl⟩) (by exact hHeld) ?_
          try simp only [Act.put, List.setIfInBounds_toArray, List.set_cons_zero, List.set_cons_succ]
          refine wpAnyH_take (i := 16) (oi := { dst := some 28, op := Op.call { callee := Callee.value (Operand.func 24), args := #[Operand.tmp 27], argTypes := #[3] }, type := 4, pos := "links.go:14", after := #[{ on := 15, ground := Ground.data }, { on := 13, ground := Ground.chain }, { on := 13, ground := Ground.guard }], guard := some (13, false) }) (v := undef) rfl (by kernel_rfl) (by kernel_rfl) (by kernel_rfl) (fun _ _ _ h => h) (Or.inr ⟨by rfl, rfl⟩) (by exact hHeld) ?_
          try simp only [Act.put, List.setIfInBounds_toArray, List.set_cons_zero, List.set_cons_succ]
          refine wpAnyH_take (i := 17) (oi := { dst := some 29, op := Op.unOp UnOp.not 4 (Operand.tmp 28), type := 4, pos := "links.go:14", after := #[{ on := 16, ground := Ground.data }, { on := 13, ground := Ground.guard }], guard := some (13, false) }) (v := undef) rfl (by kernel_rfl) (by kernel_rfl) (by kernel_rfl) (fun _ _ _ h => h) (Or.inr ⟨by rfl, rfl⟩) (by exact hHeld) ?_
          try simp only [Act.put, List.setIfInBounds_toArray, List.set_cons_zero, List.set_cons_succ]
          refine wpAnyH_take (i := 18) (oi := { dst := some 30, op := Op.pick (Operand.tmp 25) (Operand.const (Value.bool true)) (Operand.tmp 29), type := 4, pos := "links.go:14", after := #[{ on := 13, ground := Ground.data }, { on := 17, ground := Ground.data }], guard := none }) (v := ?v18r7) rfl (by kernel_rfl) (by kernel_rfl) (by kernel_rfl) (fun _ _ _ h => h) (Or.inl ⟨by rfl, ?hy18r7⟩) (by exact hHeld) ?_
          case hy18r7 => (intro w hSw; (try dsimp only at hSw); go_simp; try (with_reducible rfl))
          try simp only [Act.put, List.setIfInBounds_toArray, List.set_cons_zero, List.set_cons_succ]
          refine wpAnyH_take (i := 19) (oi := { dst := some 31, op := Op.move (Operand.tmp 30), type := 4, pos := "links.go:14", after := #[{ on := 18, ground := Ground.data }, { on := 16, ground := Ground.chain }], guard := none }) (v := ?v19r7) rfl (by kernel_rfl) (by kernel_rfl) (by kernel_rfl) (fun _ _ _ h => h) (Or.inl ⟨by rfl, ?hy19r7⟩) (by exact hHeld) ?_
          case hy19r7 => (intro w hSw; (try dsimp only at hSw); go_simp; try (with_reducible rfl))
          try simp only [Act.put, List.setIfInBounds_toArray, List.set_cons_zero, List.set_cons_succ]
          refine wpAnyH_take (i := 20) (oi := { dst := some 32, op := Op.load 73 (Operand.tmp 4), type := 73, pos := "links.go:14", after := #[{ on := 19, ground := Ground.guard }], guard := some (19, false) }) (v := undef) rfl (by kernel_rfl) (by kernel_rfl) (by kernel_rfl) (fun _ _ _ h => h) (Or.inr ⟨by rfl, rfl⟩) (by exact hHeld) ?_
          try simp only [Act.put, List.setIfInBounds_toArray, List.set_cons_zero, List.set_cons_succ]
          refine wpAnyH_take (i := 21) (oi := { dst := some 33, op := Op.call { callee := Callee.value (Operand.func 34), args := #[Operand.tmp 32], argTypes := #[73] }, type := 4, pos := "links.go:14", after := #[{ on := 20, ground := Ground.data }, { on := 19, ground := Ground.chain }, { on := 19, ground := Ground.guard }], guard := some (19, false) }) (v := undef) rfl (by kernel_rfl) (by kernel_rfl) (by kernel_rfl) (fun _ _ _ h => h) (Or.inr ⟨by rfl, rfl⟩) (by exact hHeld) ?_
          try simp only [Act.put, List.setIfInBounds_toArray, List.set_cons_zero, List.set_cons_succ]
          refine wpAnyH_take (i := 22) (oi := { dst := some 34, op := Op.unOp UnOp.not 4 (Operand.tmp 33), type := 4, pos := "links.go:14", after := #[{ on := 21, ground := Ground.data }, { on := 19, ground := Ground.guard }], guard := some (19, false) }) (v := undef) rfl (by kernel_rfl) (by kernel_rfl) (by kernel_rfl) (fun _ _ _ h => h) (Or.inr ⟨by rfl, rfl⟩) (by exact hHeld) ?_
          try simp only [Act.put, List.setIfInBounds_toArray, List.set_cons_zero, List.set_cons_succ]
          refine wpAnyH_take (i := 23) (oi := { dst := some 35, op := Op.pick (Operand.tmp 31) (Operand.const (Value.bool true)) (Operand.tmp 34), type := 4, pos := "links.go:14", after := #[{ on := 19, ground := Ground.data }, { on := 22, ground := Ground.data }], guard := none }) (v := ?v23r7) rfl (by kernel_rfl) (by kernel_rfl) (by kernel_rfl) (fun _ _ _ h => h) (Or.inl ⟨by rfl, ?hy23r7⟩) (by exact hHeld) ?_
          case hy23r7 => (intro w hSw; (try dsimp only at hSw); go_simp; try (with_reducible rfl))
          try simp only [Act.put, List.setIfInBounds_toArray, List.set_cons_zero, List.set_cons_succ]
          refine wpAnyH_take (i := 24) (oi := { dst := some 36, op := Op.move (Operand.tmp 35), type := 4, pos := "links.go:14", after := #[{ on := 23, ground := Ground.data }, { on := 21, ground := Ground.chain }], guard := none }) (v := ?v24r7) rfl (by kernel_rfl) (by kernel_rfl) (by kernel_rfl) (fun _ _ _ h => h) (Or.inl ⟨by rfl, ?hy24r7⟩) (by exact hHeld) ?_
          case hy24r7 => (intro w hSw; (try dsimp only at hSw); go_simp; try (with_reducible rfl))
          try simp only [Act.put, List.setIfInBounds_toArray, List.set_cons_zero, List.set_cons_succ]
          refine wpAnyH_take (i := 25) (oi := { dst := some 37, op := Op.load 73 (Operand.tmp 4), type := 73, pos := "links.go:14", after := #[{ on := 24, ground := Ground.guard }], guard := some (24, false) }) (v := undef) rfl (by kernel_rfl) (by kernel_rfl) (by kernel_rfl) (fun _ _ _ h => h) (Or.inr ⟨by rfl, rfl⟩) (by exact hHeld) ?_
          try simp only [Act.put, List.setIfInBounds_toArray, List.set_cons_zero, List.set_cons_succ]
          refine wpAnyH_take (i := 26) (oi := { dst := some 38, op := Op.call { callee := Callee.value (Operand.func 35), args := #[Operand.tmp 37], argTypes := #[73] }, type := 4, pos := "links.go:14", after := #[{ on := 25, ground := Ground.data }, { on := 24, ground := Ground.chain }, { on := 24, ground := Ground.guard }], guard := some (24, false) }) (v := undef) rfl (by kernel_rfl) (by kernel_rfl) (by kernel_rfl) (fun _ _ _ h => h) (Or.inr ⟨by rfl, rfl⟩) (by exact hHeld) ?_
          try simp only [Act.put, List.setIfInBounds_toArray, List.set_cons_zero, List.set_cons_succ]
          refine wpAnyH_take (i := 27) (oi := { dst := some 39, op := Op.unOp UnOp.not 4 (Operand.tmp 38), type := 4, pos := "links.go:14", after := #[{ on := 26, ground := Ground.data }, { on := 24, ground := Ground.guard }], guard := some (24, false) }) (v := undef) rfl (by kernel_rfl) (by kernel_rfl) (by kernel_rfl) (fun _ _ _ h => h) (Or.inr ⟨by rfl, rfl⟩) (by exact hHeld) ?_
          try simp only [Act.put, List.setIfInBounds_toArray, List.set_cons_zero, List.set_cons_succ]
          refine wpAnyH_take (i := 28) (oi := { dst := some 40, op := Op.pick (Operand.tmp 36) (Operand.const (Value.bool true)) (Operand.tmp 39), type := 4, pos := "links.go:14", after := #[{ on := 24, ground := Ground.data }, { on := 27, ground := Ground.data }], guard := none }) (v := ?v28r7) rfl (by kernel_rfl) (by kernel_rfl) (by kernel_rfl) (fun _ _ _ h => h) (Or.inl ⟨by rfl, ?hy28r7⟩) (by exact hHeld) ?_
          case hy28r7 => (intro w hSw; (try dsimp only at hSw); go_simp; try (with_reducible rfl))
          try simp only [Act.put, List.setIfInBounds_toArray, List.set_cons_zero, List.set_cons_succ]
          refine wpAnyH_done (by kernel_rfl) ?_ _
          clear S0 S00
          go_wp2_with fail
          go_ret
          exact ⟨by rw [unhide HR1]; rfl, unhide B0⟩
    · obtain rfl : i = N := by omega
      have HR1 := hide (unhide HE (unhide HR).2)
      have BB := hide (unhide HR).1
      clear HE HB HR HH
      go_wp2_with fail
      go_ret
      exact ⟨by rw [unhide HR1]; rfl, unhide BB⟩
end Go.Proofs.Ytgiicendejgklaa
