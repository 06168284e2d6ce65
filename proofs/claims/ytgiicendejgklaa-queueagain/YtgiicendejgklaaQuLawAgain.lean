/- QueueAgain: a packet that comes twice tells nothing the second time. mkQuAg.py writes it. -/
import Derived.Test.YtgiicendejgklaaZ31
import Derived.Test.YtgiicendejgklaaZ29
import Derived.Test.YtgiicendejgklaaQuSm
import Derived.Deep.RegionHeld3
namespace Go.Proofs.Ytgiicendejgklaa
open Go.RowKit Go.Maps
set_option maxRecDepth 100000 in
set_option maxHeartbeats 1000000 in
theorem again_any {w : World} {v : Value} {l : List Lk} {xs : List Lx} {p : Pt} {y2 : Fx} (h : RdL kLw w v l xs) (hl : l.length ≤ 140737488355328) (hp : FdR w p.fd y2 ∧ fdB p.fd) :
    Calls Try.prog 5 #[v, .agg (ptC p y2).toArray] w fun e w' => e = .returned (.bool true) ∧ Below w.heap.size w w' := by
  obtain ⟨PF, hPF⟩ : ∃ z, z = fdC p.fd y2 := ⟨_, rfl⟩
  obtain ⟨PS, hPS⟩ : ∃ z, z = ptC p y2 := ⟨_, rfl⟩
  obtain ⟨ak, hak⟩ : ∃ z, z = p.ack := ⟨_, rfl⟩
  rw [← hPS]
  obtain ⟨w0, hw0⟩ : ∃ w0, w0 = w.alloc (.cells PS.toArray 45) := ⟨_, rfl⟩
  have bl : Below w.heap.size w w0 := by rw [hw0]; exact bwA _ _
  have k1 : w0.heap[w.heap.size]? = some (.cells PS.toArray 45 (0, 0)) := by rw [hw0]; exact heap_alloc_new _ _
  have HS : Hid (∀ V, Below w0.heap.size w0 V → (V.rangeAt w.heap.size 4 PF ∧ V.cell? ⟨w.heap.size, 2, none⟩ = some (.bool ak)) ∧ V.rangeAt w.heap.size 0 PS) := fun V hV => by
    have q2 := kept_b k1 (lt_of_blk k1) hV
    have hcf : PS = .int .i64 p.fr :: .int .i64 p.tu :: .bool p.ack :: .int .i64 p.sq :: PF := by rw [hPS, hPF]; rfl
    refine ⟨⟨?_, ?_⟩, blk_rngQ q2 (fun j u hj => by rw [Nat.zero_add]; simpa using hj)⟩
    · rw [hcf] at q2
      exact blk_rngQ q2 (fun j u hj => by rw [show 4 + j = j + 1 + 1 + 1 + 1 by omega]; simpa using hj)
    · rw [hcf, ← hak] at q2; exact blk_c q2 rfl
  obtain ⟨W, hWd⟩ : ∃ z, z = w0.drew := ⟨_, rfl⟩
  have bW : Below w0.heap.size w0 W := by rw [hWd]; exact (Below.refl _ _).drew
  have S0 := (unhide HS W bW).1
  have KZ : Hid (Calls Try.prog 9 #[v] W fun e w' => ∃ n : Nat, e = .returned (.int .i64 (n : Int)) ∧ n ≤ 9007199254740992 ∧ (n ≤ 262144 → n = l.length + lsN17 l) ∧ Below W.heap.size W w') := size17_any (h.bw (bw_tr bl bW)) hl
  have KP : Hid (∀ V, Below W.heap.size W V → Calls Try.prog 10 #[.agg PF.toArray] V fun e w' => ∃ n : Nat, e = .returned (.int .i64 (n : Int)) ∧ n ≤ 5700000000000000 ∧ (n ≤ 262144 → n = fdN p.fd) ∧ Below V.heap.size V w') := fun V hV => by
    rw [hPF]; exact fdsize_any (hp.1.bw (bw_tr (bw_tr bl bW) hV))
  have KAL : Hid (∀ V2, Calls Try.prog 14 #[] V2 fun e w' => e = .returned (.bool true) ∧ Below V2.heap.size V2 w') := fun V2 => alive17_any V2
  have HIP : Hid ((Try.prog.info? 43).map (·.size) = some PF.length) := by rw [hPF]; exact infoFdS3
  have HIK : Hid ((Try.prog.info? 45).map (·.size) = some PS.length) := by rw [hPS]; exact infoPkS
  have HIN := hide (And.intro h (And.intro hp (And.intro hPS hak)))
  have HW := hide hw0
  have HWD := hide hWd
  have HBL := hide bl
  have HBW := hide bW
  obtain ⟨av, cv, rfl⟩ := rdl_slice h
  obtain ⟨N, hN⟩ : ∃ z, z = l.length := ⟨_, rfl⟩
  rw [← hN] at KZ HIN ⊢
  have HN := hide hN
  clear h hl hp hPF hPS hak hw0 bl k1 hWd bW hN
  go_enter Try.func5, Try.ntmps5
  go_upto_region 1 with fail
  rw [← unhide HW]
  clear HW
  refine wp_region_held_drew (S := fun w' : World => (w').rangeAt w.heap.size 4 PF ∧ (w').cell? ⟨w.heap.size, 2, none⟩ = some (.bool ak)) (by kernel_rfl) (by rw [← unhide HWD]; exact S0) (fun hHeld => ?_)
  revert hHeld
  rw [← unhide HWD]
  intro hHeld
  refine wpAnyH_take (i := 0) (oi := { dst := some 13, op := Op.move (Operand.tmp 0), type := 22, pos := "law.go:158", after := #[], guard := none }) (v := ?v0r1) rfl (by kernel_rfl) (by kernel_rfl) (by kernel_rfl) (fun _ _ _ h => h) (Or.inl ⟨by rfl, ?hy0r1⟩) (by exact hHeld) ?_
  case hy0r1 => (intro w hSw; (try dsimp only at hSw); go_simp; try (with_reducible rfl))
  try simp only [Act.put, List.setIfInBounds_toArray, List.set_cons_zero, List.set_cons_succ]
  refine wpAnyH_take (i := 2) (oi := { dst := some 15, op := Op.fieldAddr 45 (Operand.tmp 3) 4, type := 0, pos := "law.go:158", after := #[], guard := none }) (v := ?v2r1) rfl (by kernel_rfl) (by kernel_rfl) (by kernel_rfl) (fun _ _ _ h => h) (Or.inl ⟨by rfl, ?hy2r1⟩) (by exact hHeld) ?_
  case hy2r1 => (intro w hSw; (try dsimp only at hSw); go_simp; try (with_reducible rfl))
  try simp only [Act.put, List.setIfInBounds_toArray, List.set_cons_zero, List.set_cons_succ]
  refine wpAnyH_take (i := 3) (oi := { dst := some 16, op := Op.load 43 (Operand.tmp 15), type := 43, pos := "law.go:158", after := #[{ on := 2, ground := Ground.data }], guard := none }) (v := .agg PF.toArray) rfl (by kernel_rfl) (by kernel_rfl) (by kernel_rfl) (fun _ _ _ h => h) (yieldsIf_load_mid (by rfl) 43 (.tmp 15) rfl w.heap.size 4 (by rfl) PF _ (fun _ h => h.1) Try.underlying43 rfl (unhide HIP)) (by exact hHeld) ?_
  try simp only [Act.put, List.setIfInBounds_toArray, List.set_cons_zero, List.set_cons_succ]
  refine wpAnyH_ready (rs := [1]) (by kernel_rfl) (by simp) ?_
  refine AllReadyH.cons (o := { dst := some 14, op := Op.call { callee := Callee.value (Operand.func 9), args := #[Operand.tmp 13], argTypes := #[22] }, type := 3, pos := "law.go:158", after := #[{ on := 0, ground := Ground.data }], guard := none }) rfl (fun K hK => ?_) AllReadyH.nil
  go_simp
  go_at_call 9
  refine (unhide KZ).mono ?_
  rintro e_ z1 ⟨n1, rfl, hn1, hm1, b1_⟩
  have SZ1 := (unhide HS z1 (bw_tr (unhide HBW) b1_)).1
  have HX2 := hide b1_
  have KP2 := hide (unhide KP z1 b1_)
  have HM1 := hide hm1
  clear KZ KP b1_ hm1
  go_wp2_with fail
  refine hK.out _ _ SZ1 (fun _ => ?_)
  clear hK K
  try simp only [Act.put, List.setIfInBounds_toArray, List.set_cons_zero, List.set_cons_succ]
  refine wpAnyH_ready (rs := [4]) (by kernel_rfl) (by simp) ?_
  refine AllReadyH.cons (o := { dst := some 17, op := Op.call { callee := Callee.value (Operand.func 10), args := #[Operand.tmp 16], argTypes := #[43] }, type := 3, pos := "law.go:158", after := #[{ on := 3, ground := Ground.data }, { on := 1, ground := Ground.chain }], guard := none }) rfl (fun K hK => ?_) AllReadyH.nil
  go_simp
  go_at_call 10
  refine (unhide KP2).mono ?_
  rintro e_ z3 ⟨n3, rfl, hn3, hm3, b3_⟩
  have SZ3 := (unhide HS z3 (bw_tr (unhide HBW) (bw_tr (unhide HX2) b3_))).1
  have HX3 := hide (bw_tr (unhide HBW) (bw_tr (unhide HX2) b3_))
  have SZ4 : ∀ o, (z3.alloc o).rangeAt w.heap.size 4 PF ∧ (z3.alloc o).cell? ⟨w.heap.size, 2, none⟩ = some (.bool ak) := fun o => (unhide HS (z3.alloc o) (bw_tr (unhide HX3) (bwA z3 o))).1
  have HM3 := hide hm3
  clear KP2 b3_ hm3 HX2
  go_wp2_with fail
  refine hK.out _ _ SZ3 (fun _ => ?_)
  clear hK K
  try simp only [Act.put, List.setIfInBounds_toArray, List.set_cons_zero, List.set_cons_succ]
  refine wpAnyH_ready (rs := [5]) (by kernel_rfl) (by simp) ?_
  refine AllReadyH.cons (o := { dst := some 18, op := Op.buildSlice 25 2 #[(0, Operand.tmp 14), (1, Operand.tmp 17)], type := 25, pos := "law.go:158", after := #[{ on := 1, ground := Ground.data }, { on := 4, ground := Ground.data }], guard := none }) rfl (fun K hK => ?_) AllReadyH.nil
  go_simp
  refine hK.out _ _ (SZ4 _) (fun _ => ?_)
  clear hK K
  try simp only [Act.put, List.setIfInBounds_toArray, List.set_cons_zero, List.set_cons_succ]
  refine wpAnyH_ready (rs := [6]) (by kernel_rfl) (by simp) ?_
  refine AllReadyH.cons (o := { dst := some 19, op := Op.call { callee := Callee.value (Operand.func 8), args := #[Operand.tmp 18], argTypes := #[25] }, type := 4, pos := "law.go:158", after := #[{ on := 5, ground := Ground.data }, { on := 4, ground := Ground.chain }], guard := none }) rfl (fun K hK => ?_) AllReadyH.nil
  go_simp
  go_at_call 8
  refine (beyond17b z3.heap.size n1 n3 2 _ (by omega) (by omega) (blk_c (heap_alloc_new _ _) rfl) (blk_c (heap_alloc_new _ _) rfl)).mono ?_
  rintro e_ z4 ⟨rfl, rfl⟩
  obtain ⟨z, hz⟩ : ∃ z, z = decide (262144 < n1 + n3) := ⟨_, rfl⟩
  rw [← hz]
  have HZZ : Hid (z = false → n1 + n3 ≤ 262144) := fun q => (by rw [hz] at q; simpa using q)
  clear hz
  go_wp2_with fail
  refine hK.out _ _ (SZ4 _) (fun _ => ?_)
  clear hK K
  try simp only [Act.put, List.setIfInBounds_toArray, List.set_cons_zero, List.set_cons_succ]
  cases z with
  | true =>
    refine wpAnyH_take (i := 7) (oi := { dst := some 20, op := Op.move (Operand.tmp 19), type := 4, pos := "law.go:158", after := #[{ on := 6, ground := Ground.data }, { on := 6, ground := Ground.chain }], guard := none }) (v := ?v7r2) rfl (by kernel_rfl) (by kernel_rfl) (by kernel_rfl) (fun _ _ _ h => h) (Or.inl ⟨by rfl, ?hy7r2⟩) (by exact (SZ4 _)) ?_
    case hy7r2 => (intro w hSw; (try dsimp only at hSw); go_simp; try (with_reducible rfl))
    try simp only [Act.put, List.setIfInBounds_toArray, List.set_cons_zero, List.set_cons_succ]
    refine wpAnyH_take (i := 8) (oi := { dst := some 21, op := Op.fieldAddr 45 (Operand.tmp 3) 2, type := 0, pos := "law.go:158", after := #[{ on := 7, ground := Ground.guard }], guard := some (7, false) }) (v := undef) rfl (by kernel_rfl) (by kernel_rfl) (by kernel_rfl) (fun _ _ _ h => h) (Or.inr ⟨by rfl, rfl⟩) (by exact (SZ4 _)) ?_
    try simp only [Act.put, List.setIfInBounds_toArray, List.set_cons_zero, List.set_cons_succ]
    refine wpAnyH_take (i := 9) (oi := { dst := some 22, op := Op.load 4 (Operand.tmp 21), type := 4, pos := "law.go:158", after := #[{ on := 8, ground := Ground.data }, { on := 7, ground := Ground.guard }], guard := some (7, false) }) (v := undef) rfl (by kernel_rfl) (by kernel_rfl) (by kernel_rfl) (fun _ _ _ h => h) (Or.inr ⟨by rfl, rfl⟩) (by exact (SZ4 _)) ?_
    try simp only [Act.put, List.setIfInBounds_toArray, List.set_cons_zero, List.set_cons_succ]
    refine wpAnyH_take (i := 10) (oi := { dst := some 23, op := Op.pick (Operand.tmp 20) (Operand.const (Value.bool true)) (Operand.tmp 22), type := 4, pos := "law.go:158", after := #[{ on := 7, ground := Ground.data }, { on := 9, ground := Ground.data }], guard := none }) (v := ?v10r2) rfl (by kernel_rfl) (by kernel_rfl) (by kernel_rfl) (fun _ _ _ h => h) (Or.inl ⟨by rfl, ?hy10r2⟩) (by exact (SZ4 _)) ?_
    case hy10r2 => (intro w hSw; (try dsimp only at hSw); go_simp; try (with_reducible rfl))
    try simp only [Act.put, List.setIfInBounds_toArray, List.set_cons_zero, List.set_cons_succ]
    refine wpAnyH_done (by kernel_rfl) ?_ _
    generalize hV : World.alloc z3 _ = V
    have HXV : Hid (Below w0.heap.size w0 V) := (by rw [← hV]; exact bw_tr (unhide HX3) (bwA z3 _))
    clear hV S0 SZ1 SZ3 SZ4 HX3 HIP hHeld
    have HB := hide (bw_tr (unhide HBL) (unhide HXV))
    clear HS HIN HZZ HM1 HM3 HXV HBL HBW HIK
    go_wp2_with fail
    refine (unhide KAL _).mono ?_
    rintro e w9 ⟨rfl, b9⟩
    clear KAL
    go_wp2_with fail
    go_ret
    exact ⟨rfl, bw_tr (unhide HB) b9⟩
  | false =>
    refine wpAnyH_take (i := 7) (oi := { dst := some 20, op := Op.move (Operand.tmp 19), type := 4, pos := "law.go:158", after := #[{ on := 6, ground := Ground.data }, { on := 6, ground := Ground.chain }], guard := none }) (v := ?v7r1) rfl (by kernel_rfl) (by kernel_rfl) (by kernel_rfl) (fun _ _ _ h => h) (Or.inl ⟨by rfl, ?hy7r1⟩) (by exact (SZ4 _)) ?_
    case hy7r1 => (intro w hSw; (try dsimp only at hSw); go_simp; try (with_reducible rfl))
    try simp only [Act.put, List.setIfInBounds_toArray, List.set_cons_zero, List.set_cons_succ]
    refine wpAnyH_take (i := 8) (oi := { dst := some 21, op := Op.fieldAddr 45 (Operand.tmp 3) 2, type := 0, pos := "law.go:158", after := #[{ on := 7, ground := Ground.guard }], guard := some (7, false) }) (v := ?v8r1) rfl (by kernel_rfl) (by kernel_rfl) (by kernel_rfl) (fun _ _ _ h => h) (Or.inl ⟨by rfl, ?hy8r1⟩) (by exact (SZ4 _)) ?_
    case hy8r1 => (intro w hSw; (try dsimp only at hSw); go_simp; try (with_reducible rfl))
    try simp only [Act.put, List.setIfInBounds_toArray, List.set_cons_zero, List.set_cons_succ]
    refine wpAnyH_take (i := 9) (oi := { dst := some 22, op := Op.load 4 (Operand.tmp 21), type := 4, pos := "law.go:158", after := #[{ on := 8, ground := Ground.data }, { on := 7, ground := Ground.guard }], guard := some (7, false) }) (v := ?v9r1) rfl (by kernel_rfl) (by kernel_rfl) (by kernel_rfl) (fun _ _ _ h => h) (Or.inl ⟨by rfl, ?hy9r1⟩) (by exact (SZ4 _)) ?_
    case hy9r1 => (intro w hSw; (try dsimp only at hSw); go_simp; try (with_reducible rfl))
    try simp only [Act.put, List.setIfInBounds_toArray, List.set_cons_zero, List.set_cons_succ]
    refine wpAnyH_take (i := 10) (oi := { dst := some 23, op := Op.pick (Operand.tmp 20) (Operand.const (Value.bool true)) (Operand.tmp 22), type := 4, pos := "law.go:158", after := #[{ on := 7, ground := Ground.data }, { on := 9, ground := Ground.data }], guard := none }) (v := ?v10r1) rfl (by kernel_rfl) (by kernel_rfl) (by kernel_rfl) (fun _ _ _ h => h) (Or.inl ⟨by rfl, ?hy10r1⟩) (by exact (SZ4 _)) ?_
    case hy10r1 => (intro w hSw; (try dsimp only at hSw); go_simp; try (with_reducible rfl))
    try simp only [Act.put, List.setIfInBounds_toArray, List.set_cons_zero, List.set_cons_succ]
    refine wpAnyH_done (by kernel_rfl) ?_ _
    generalize hV : World.alloc z3 _ = V
    have HXV : Hid (Below w0.heap.size w0 V) := (by rw [← hV]; exact bw_tr (unhide HX3) (bwA z3 _))
    clear hV S0 SZ1 SZ3 SZ4 HX3 HIP hHeld
    cases ak with
    | true =>
      have HB := hide (bw_tr (unhide HBL) (unhide HXV))
      clear HS HIN HZZ HM1 HM3 HXV HBL HBW HIK
      go_wp2_with fail
      refine (unhide KAL _).mono ?_
      rintro e w9 ⟨rfl, b9⟩
      clear KAL
      go_wp2_with fail
      go_ret
      exact ⟨rfl, bw_tr (unhide HB) b9⟩
    | false =>
      have HSZ : Hid (l.length + lsN17 l ≤ 262144 ∧ fdN p.fd ≤ 262144) := (by
        have e0 := unhide HZZ rfl
        have e1 := unhide HM1 (by omega)
        have e3 := unhide HM3 (by omega)
        have e4 := unhide HN
        exact ⟨by omega, by omega⟩)
      have HKL : Hid (RdL kLk w (.slice av N cv) l xs ∧ SmF p.fd) := ⟨lks_of (unhide HIN).1 (unhide HSZ).1, smF_of (unhide HIN).2.1 (by have := (unhide HSZ).2; omega)⟩
      have HBV := hide (bw_tr (unhide HBL) (unhide HXV))
      have hl6 : Hid (l.length ≤ 262144) := (by have := (unhide HSZ).1; unfold Hid; omega)
      have KTa : Hid (Calls Try.prog 12 #[.slice av N cv, .agg PS.toArray] V fun e w' => ∃ va tv bv ea, e = .returned (.tuple #[va, tv, bv, .int .i64 ea]) ∧ Below V.heap.size V w' ∧ Hid ((ea ≠ 0 ∧ va = .slice none 0 0) ∨ (ea = 0 ∧ ∃ l2 xs2 bk bx, RdL kLk w' va l2 xs2 ∧ RdL kPk w' bv [bk] bx ∧ l2.length ≤ 262145 ∧
          ∀ u, Below w'.heap.size w' u → Calls Try.prog 12 #[va, .agg PS.toArray] u fun e2 u' => ∃ vb a c bv2 xs3 bx2, e2 = .returned (.tuple #[vb, .slice a 0 c, bv2, .int .i64 0]) ∧ Hid (RdL kLk u' vb l2 xs3 ∧ RdL kPk u' bv2 [bk] bx2) ∧ Below u.heap.size u u'))) := (by
        rw [(unhide HIN).2.2.1]
        refine Calls.mono (take_any ((unhide HKL).1.bw (unhide HBV)) (by have := unhide hl6; omega) ((unhide HIN).2.1.1.bw (unhide HBV)) (unhide HKL).2) ?_
        intro e w' hq
        obtain ⟨va, tv, bv, ea, rfl, hb, hq⟩ := take_twice hq (unhide HIN).2.2.2.symm
        refine ⟨va, tv, bv, ea, rfl, hb, ?_⟩
        rcases hq with c | ⟨c, l2, xs2, bk, bx, q1, q2, q3, q4⟩
        · exact Or.inl c
        · refine Or.inr ⟨c, l2, xs2, bk, bx, q1, q2, by have := unhide hl6; omega, fun u hu => ?_⟩
          refine Calls.mono (take_any (q1.bw hu) (by have := unhide hl6; omega) ((unhide HIN).2.1.1.bw (bw_tr (bw_tr (unhide HBV) hb) hu)) (unhide HKL).2) ?_
          intro e2 u' h2
          obtain ⟨vb, a, cc, bv2, xs3, bx2, rfl, r1, r2, r3⟩ := q4 u u' e2 h2
          exact ⟨vb, a, cc, bv2, xs3, bx2, rfl, ⟨r1, r2⟩, r3⟩)
      have HRV := hide (unhide HS V (unhide HXV)).2
      clear HZZ HM1 HM3 HSZ hn1 hn3 HBW
      go_wp2_with (refine wpList_load_mid rfl 45 (.tmp 3) rfl w.heap.size 0 (by simp [Act.eval]) PS _ (unhide HRV) Try.underlying45 rfl (unhide HIK) ?_)
      refine (unhide KTa).mono ?_
      rintro e w5 ⟨va, tv, bv, ea, rfl, b5, HA⟩
      have HB5 := hide (bw_tr (unhide HBV) b5)
      have HRP := hide (unhide HS w5 (bw_tr (unhide HXV) b5)).2
      clear KTa HRV HS HXV HIN HKL HBL b5
      rcases unhide HA with ⟨hne, rfl⟩ | ⟨rfl, l2, xs2, bk, bx, q1, q2, q3, q4⟩
      · have p1 : (ea == 0) = false := (by simp; exact hne)
        have p2 : decide (ea = 0) = false := decide_eq_false hne
        clear HA HRP HIK
        go_wp2_with fail
        refine (unhide KAL _).mono ?_
        rintro e w9 ⟨rfl, b9⟩
        clear KAL
        go_wp2_with fail
        go_ret
        exact ⟨rfl, bw_tr (unhide HB5) b9⟩
      · have K2 := hide (q4 w5 (Below.refl _ _))
        have HQ := hide (And.intro q1 (And.intro q2 q3))
        clear HA q1 q2 q3 q4
        go_wp2_with (refine wpList_load_mid rfl 45 (.tmp 3) rfl w.heap.size 0 (by simp [Act.eval]) PS _ (unhide HRP) Try.underlying45 rfl (unhide HIK) ?_)
        refine (unhide K2).mono ?_
        rintro e w6 ⟨vb, a6, c6, bv2, xs3, bx2, rfl, hR, b6⟩
        have HB6 := hide (bw_tr (unhide HB5) b6)
        have KSL : Hid (Calls Try.prog 17 #[va, vb] w6 fun e w' => e = .returned (.bool true) ∧ Below w6.heap.size w6 w') := sameLks_any ((unhide HQ).1.bw b6) (unhide hR).1 (by have := (unhide HQ).2.2; omega)
        have KSP : Hid (∀ u, Below w6.heap.size w6 u → Calls Try.prog 18 #[bv, bv2] u fun e w' => e = .returned (.bool true) ∧ Below u.heap.size u w') := fun u hu => samePts_any (((unhide HQ).2.1.bw b6).bw hu) ((unhide hR).2.bw hu) (by simp)
        clear K2 HQ hR b6 HRP HIK HB5
        go_wp2_with fail
        refine (unhide KSL).mono ?_
        rintro e w7 ⟨rfl, b7⟩
        have KSP2 := hide (unhide KSP w7 b7)
        have HB7 := hide (bw_tr (unhide HB6) b7)
        clear KSL KSP b7 HB6
        go_wp2_with fail
        refine (unhide KSP2).mono ?_
        rintro e w8 ⟨rfl, b8⟩
        have HB8 := hide (bw_tr (unhide HB7) b8)
        clear KSP2 b8 HB7
        go_wp2_with fail
        refine (unhide KAL _).mono ?_
        rintro e w9 ⟨rfl, b9⟩
        clear KAL
        go_wp2_with fail
        go_ret
        exact ⟨rfl, bw_tr (unhide HB8) b9⟩
end Go.Proofs.Ytgiicendejgklaa
