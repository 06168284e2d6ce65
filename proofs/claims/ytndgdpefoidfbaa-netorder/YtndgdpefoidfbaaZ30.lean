/- Texts joined: QuLs QuB1. -/
import Derived.Test.YtndgdpefoidfbaaZ18
import Derived.Test.YtndgdpefoidfbaaZ29
import Derived.Deep.RegionHeld3
/- How great feeds and links are, as they come in: FeedSize, LinkSize, size. mkQuLs.py writes it. -/
namespace Go.Proofs.Ytndgdpefoidfbaa
open Go.RowKit Go.Maps
def fdN (f : Fd) : Nat := 1 + cmN f.cm + mlN f.ml
def fdB (f : Fd) : Prop := (∀ z ∈ [f.ml.c0, f.ml.c1, f.ml.c2, f.ml.n0, f.ml.n1, f.ml.n2, f.ml.n3, f.ml.n4], -9223372036854775808 ≤ z ∧ z ≤ 9223372036854775807) ∧ ∀ z ∈ [f.n0, f.n1, f.n2, f.n3, f.n4], -9223372036854775808 ≤ z ∧ z ≤ 9223372036854775807
theorem infoCmS17 : (Try.prog.info? 31).map (·.size) = some 15 := by kernel_rfl
theorem infoMlS17 : (Try.prog.info? 40).map (·.size) = some 30 := by kernel_rfl
set_option maxRecDepth 100000 in
set_option maxHeartbeats 1000000 in
theorem fdsize_any {w : World} {f : Fd} {x : Fx} (h : FdR w f x) :
    Calls Try.prog 8 #[.agg (fdC f x).toArray] w fun e w' => ∃ n : Nat, e = .returned (.int .i64 (n : Int)) ∧ n ≤ 5700000000000000 ∧ (n ≤ 262144 → n = fdN f) ∧ Below w.heap.size w w' := by
  obtain ⟨w0, hw0⟩ : ∃ w0, w0 = w.alloc (.cells (fdC f x).toArray 42) := ⟨_, rfl⟩
  have bl : Below w.heap.size w w0 := by rw [hw0]; exact bwA _ _
  have kk : w0.heap[w.heap.size]? = some (.cells (fdC f x).toArray 42 (0, 0)) := by rw [hw0]; exact heap_alloc_new _ _
  obtain ⟨CC, hCC⟩ : ∃ z, z = cmC f.cm x.cx := ⟨_, rfl⟩
  obtain ⟨MM, hMM⟩ : ∃ z, z = mlC f.ml x.mx := ⟨_, rfl⟩
  have HS : Hid (∀ V, Below w0.heap.size w0 V → V.rangeAt w.heap.size 3 CC ∧ V.rangeAt w.heap.size 18 MM) := fun V hV => by
    have k := kept_b kk (lt_of_blk kk) hV
    refine ⟨blk_rngQ k (fun j u hj => ?_), blk_rngQ k (fun j u hj => ?_)⟩
    · rw [hCC] at hj
      have : (fdC f x)[3 + j]? = some u := by
        unfold fdC
        rw [show 3 + j = j + 1 + 1 + 1 by omega, List.getElem?_cons_succ, List.getElem?_cons_succ, List.getElem?_cons_succ, List.getElem?_append_left (by exact (List.getElem?_eq_some_iff.1 hj).1)]
        exact hj
      simpa using this
    · rw [hMM] at hj
      have : (fdC f x)[18 + j]? = some u := by
        unfold fdC
        have hl : (cmC f.cm x.cx).length = 15 := rfl
        rw [show 18 + j = (15 + j) + 1 + 1 + 1 by omega, List.getElem?_cons_succ, List.getElem?_cons_succ, List.getElem?_cons_succ, List.getElem?_append_right (by rw [hl]; omega), hl, show 15 + j - 15 = j by omega, List.getElem?_append_left (by exact (List.getElem?_eq_some_iff.1 hj).1)]
        exact hj
      simpa using this
  obtain ⟨W, hWd⟩ : ∃ z, z = w0.drew := ⟨_, rfl⟩
  have bW : Below w0.heap.size w0 W := by rw [hWd]; exact (Below.refl _ _).drew
  have S0 := unhide HS W bW
  have KC : Hid (Calls Try.prog 21 #[.agg CC.toArray] W fun e w' => ∃ n : Nat, e = .returned (.int .i64 (n : Int)) ∧ n ≤ 2251799813685248 ∧ (n ≤ 262144 → n = cmN f.cm) ∧ Below W.heap.size W w') := by
    rw [hCC]; exact cmsize_any (h.c.bw (bw_tr bl bW))
  have KM : Hid (∀ V, Below W.heap.size W V → Calls Try.prog 22 #[.agg MM.toArray] V fun e w' => ∃ n : Nat, e = .returned (.int .i64 (n : Int)) ∧ n ≤ 3377699720527872 ∧ (n ≤ 262144 → n = mlN f.ml) ∧ Below V.heap.size V w') := fun V hV => by
    rw [hMM]; exact mlsize_any (h.m.bw (bw_tr (bw_tr bl bW) hV))
  have HIC : Hid ((Try.prog.info? 31).map (·.size) = some CC.length) := by rw [hCC]; exact infoCmS17
  have HIM : Hid ((Try.prog.info? 40).map (·.size) = some MM.length) := by rw [hMM]; exact infoMlS17
  have HN : Hid (fdN f = 1 + cmN f.cm + mlN f.ml) := rfl
  obtain ⟨FN, hFN⟩ : ∃ z, z = fdN f := ⟨_, rfl⟩
  obtain ⟨CN, hCN⟩ : ∃ z, z = cmN f.cm := ⟨_, rfl⟩
  obtain ⟨MN, hMN⟩ : ∃ z, z = mlN f.ml := ⟨_, rfl⟩
  obtain ⟨CF, hCF⟩ : ∃ z, z = (fdC f x).toArray := ⟨_, rfl⟩
  rw [← hFN, ← hCN, ← hMN] at HN
  rw [← hCN] at KC
  rw [← hMN] at KM
  rw [← hFN, ← hCF]
  rw [← hCF] at hw0
  have HW := hide hw0
  have HWD := hide hWd
  have HBL := hide bl
  have HBW := hide bW
  clear h hw0 bl kk hCC hMM hWd bW hFN hCN hMN hCF
  go_enter Try.func8, Try.ntmps8
  go_upto_region 1 with fail
  rw [← unhide HW]
  clear HW
  refine wp_region_held_drew (S := fun w' : World => (w').rangeAt w.heap.size 3 CC ∧ (w').rangeAt w.heap.size 18 MM) (by kernel_rfl) (by rw [← unhide HWD]; exact S0) (fun hHeld => ?_)
  revert hHeld
  rw [← unhide HWD]
  intro hHeld
  refine wpAnyH_take (i := 0) (oi := { dst := some 3, op := Op.fieldAddr 42 (Operand.tmp 1) 3, type := 0, pos := "size.go:64", after := #[], guard := none }) (v := ?v0r1) rfl (by kernel_rfl) (by kernel_rfl) (by kernel_rfl) (fun _ _ _ h => h) (Or.inl ⟨by rfl, ?hy0r1⟩) (by exact hHeld) ?_
  case hy0r1 => (intro w hSw; (try dsimp only at hSw); go_simp; try (with_reducible rfl))
  try simp only [Act.put, List.setIfInBounds_toArray, List.set_cons_zero, List.set_cons_succ]
  refine wpAnyH_take (i := 4) (oi := { dst := some 7, op := Op.fieldAddr 42 (Operand.tmp 1) 4, type := 0, pos := "size.go:64", after := #[], guard := none }) (v := ?v4r1) rfl (by kernel_rfl) (by kernel_rfl) (by kernel_rfl) (fun _ _ _ h => h) (Or.inl ⟨by rfl, ?hy4r1⟩) (by exact hHeld) ?_
  case hy4r1 => (intro w hSw; (try dsimp only at hSw); go_simp; try (with_reducible rfl))
  try simp only [Act.put, List.setIfInBounds_toArray, List.set_cons_zero, List.set_cons_succ]
  refine wpAnyH_take (i := 1) (oi := { dst := some 4, op := Op.load 31 (Operand.tmp 3), type := 31, pos := "size.go:64", after := #[{ on := 0, ground := Ground.data }], guard := none }) (v := .agg CC.toArray) rfl (by kernel_rfl) (by kernel_rfl) (by kernel_rfl) (fun _ _ _ h => h) (yieldsIf_load_mid (by rfl) 31 (.tmp 3) rfl w.heap.size 3 (by rfl) CC _ (fun _ h => h.1) Try.underlying31 rfl (unhide HIC)) (by exact hHeld) ?_
  try simp only [Act.put, List.setIfInBounds_toArray, List.set_cons_zero, List.set_cons_succ]
  refine wpAnyH_take (i := 5) (oi := { dst := some 8, op := Op.load 40 (Operand.tmp 7), type := 40, pos := "size.go:64", after := #[{ on := 4, ground := Ground.data }], guard := none }) (v := .agg MM.toArray) rfl (by kernel_rfl) (by kernel_rfl) (by kernel_rfl) (fun _ _ _ h => h) (yieldsIf_load_mid (by rfl) 40 (.tmp 7) rfl w.heap.size 18 (by rfl) MM _ (fun _ h => h.2) Try.underlying40 rfl (unhide HIM)) (by exact hHeld) ?_
  try simp only [Act.put, List.setIfInBounds_toArray, List.set_cons_zero, List.set_cons_succ]
  refine wpAnyH_ready (rs := [2]) (by kernel_rfl) (by simp) ?_
  refine AllReadyH.cons (o := { dst := some 5, op := Op.call { callee := Callee.value (Operand.func 21), args := #[Operand.tmp 4], argTypes := #[31] }, type := 3, pos := "size.go:64", after := #[{ on := 1, ground := Ground.data }], guard := none }) rfl (fun K hK => ?_) AllReadyH.nil
  go_simp
  go_at_call 21
  refine (unhide KC).mono ?_
  rintro e_ z1 ⟨n, rfl, hn1, hn2, b1_⟩
  have SZ1 := unhide HS z1 (bw_tr (unhide HBW) b1_)
  have KZ := hide (unhide KM z1 b1_)
  have HX1 := hide (bw_tr (unhide HBW) b1_)
  have HWR : Hid (IntKind.i64.wrap (1 + (n : Int)) = 1 + (n : Int)) := wrap_id (by omega)
  have HN2 := hide hn2
  clear KC KM b1_ hn2
  go_wp2_with fail
  refine hK.out _ _ SZ1 (fun _ => ?_)
  clear hK K
  try simp only [Act.put, List.setIfInBounds_toArray, List.set_cons_zero, List.set_cons_succ]
  refine wpAnyH_take (i := 3) (oi := { dst := some 6, op := Op.binOp BinOp.add 3 (Operand.const (Value.int IntKind.i64 1)) (Operand.tmp 5) 3, type := 3, pos := "size.go:64", after := #[{ on := 2, ground := Ground.data }], guard := none }) (v := .int .i64 (1 + (n : Int))) rfl (by kernel_rfl) (by kernel_rfl) (by kernel_rfl) (fun _ _ _ h => h) (Or.inl ⟨by rfl, ?hy3r1⟩) (by exact SZ1) ?_
  case hy3r1 => (intro w hSw; go_simp; try (exact unhide HWR))
  try simp only [Act.put, List.setIfInBounds_toArray, List.set_cons_zero, List.set_cons_succ]
  refine wpAnyH_ready (rs := [6]) (by kernel_rfl) (by simp) ?_
  refine AllReadyH.cons (o := { dst := some 9, op := Op.call { callee := Callee.value (Operand.func 22), args := #[Operand.tmp 8], argTypes := #[40] }, type := 3, pos := "size.go:64", after := #[{ on := 5, ground := Ground.data }, { on := 2, ground := Ground.chain }], guard := none }) rfl (fun K hK => ?_) AllReadyH.nil
  go_simp
  go_at_call 22
  refine (unhide KZ).mono ?_
  rintro e_ z2 ⟨m, rfl, hm1, hm2, b2_⟩
  have SZ2 := unhide HS z2 (bw_tr (unhide HX1) b2_)
  have HB2 := hide (bw_tr (unhide HBL) (bw_tr (unhide HX1) b2_))
  have HWR2 : Hid (IntKind.i64.wrap (1 + (n : Int) + (m : Int)) = 1 + (n : Int) + (m : Int)) := wrap_id (by omega)
  have HM2 := hide hm2
  clear KZ b2_ hm2
  go_wp2_with fail
  refine hK.out _ _ SZ2 (fun _ => ?_)
  clear hK K
  try simp only [Act.put, List.setIfInBounds_toArray, List.set_cons_zero, List.set_cons_succ]
  refine wpAnyH_take (i := 7) (oi := { dst := some 10, op := Op.binOp BinOp.add 3 (Operand.tmp 6) (Operand.tmp 9) 3, type := 3, pos := "size.go:64", after := #[{ on := 3, ground := Ground.data }, { on := 6, ground := Ground.data }], guard := none }) (v := .int .i64 (1 + (n : Int) + (m : Int))) rfl (by kernel_rfl) (by kernel_rfl) (by kernel_rfl) (fun _ _ _ h => h) (Or.inl ⟨by rfl, ?hy7r1⟩) (by exact SZ2) ?_
  case hy7r1 => (intro w hSw; go_simp; try (exact unhide HWR2))
  try simp only [Act.put, List.setIfInBounds_toArray, List.set_cons_zero, List.set_cons_succ]
  refine wpAnyH_take (i := 8) (oi := { dst := some 2, op := Op.assign (Operand.tmp 10), type := 3, pos := "size.go:64", after := #[{ on := 7, ground := Ground.data }, { on := 6, ground := Ground.chain }, { on := 0, ground := Ground.phase }, { on := 1, ground := Ground.phase }, { on := 2, ground := Ground.phase }, { on := 3, ground := Ground.phase }, { on := 4, ground := Ground.phase }, { on := 5, ground := Ground.phase }, { on := 6, ground := Ground.phase }, { on := 7, ground := Ground.phase }], guard := none }) (v := ?v8r1) rfl (by kernel_rfl) (by kernel_rfl) (by kernel_rfl) (fun _ _ _ h => h) (Or.inl ⟨by rfl, ?hy8r1⟩) (by exact SZ2) ?_
  case hy8r1 => (intro w hSw; (try dsimp only at hSw); go_simp; try (with_reducible rfl))
  try simp only [Act.put, List.setIfInBounds_toArray, List.set_cons_zero, List.set_cons_succ]
  refine wpAnyH_done (by kernel_rfl) ?_ _
  clear S0 SZ1 SZ2 HS HIC HIM HX1 HWR HWR2 HBL HBW
  go_wp2_with fail
  go_ret
  refine ⟨1 + n + m, by rw [show ((1 + n + m : Nat) : Int) = 1 + (n : Int) + (m : Int) by omega]; rfl, by omega, fun hq => ?_, unhide HB2⟩
  have := unhide HN2 (by omega)
  have := unhide HM2 (by omega)
  have := unhide HN
  omega
theorem mem_usum17 {T : List Nd} {n : Nd} (h : n ∈ T) : n.un.length ≤ usum T := by
  unfold usum
  induction T with
  | nil => cases h
  | cons m r ih =>
    rcases List.mem_cons.1 h with rfl | h
    · simp
    · have := ih h; simp only [List.map_cons, List.sum_cons]; omega
theorem smF_of {w : World} {f : Fd} {x : Fx} (h : FdR w f x ∧ fdB f) (hn : fdN f ≤ 1048576) : SmF f := by
  unfold fdN at hn
  have hml : mlN f.ml = cmN f.ml.cm + (f.ml.tr.length + usum f.ml.tr) := rfl
  have sc : ∀ {c : Cm} {cx : Cv}, CmR w c cx → cmN c ≤ 1048576 → SmC c := fun {c cx} hc hb => by
    unfold cmN at hb
    exact ⟨by omega, by omega, by omega, by omega, by omega, fun n hn => by have := mem_usum17 hn; omega, hc.adds.fit, hc.seals.fit, hc.joins.fit⟩
  exact ⟨sc h.1.c (by omega), ⟨sc h.1.m.c (by omega), by omega, fun n hq => by have := mem_usum17 hq; omega, h.2.1⟩, h.2.2⟩
end Go.Proofs.Ytndgdpefoidfbaa

/- Beyond of one number (out of DkFrame). mkQuAc.py writes it. -/
namespace Go.Proofs.Ytndgdpefoidfbaa
open Go.RowKit Go.Maps
set_option maxHeartbeats 400000 in
theorem beyond17a (b : Nat) (n : Nat) (c : Nat) (w : World) (hn : n ≤ 9007199254740992) (h0 : w.cell? ⟨b, 0, none⟩ = some (.int .i64 n)) :
    Calls Try.prog 7 #[.slice (some ⟨b, 0, none⟩) 1 c] w fun e w' => e = .returned (.bool (decide (262144 < n))) ∧ w' = w := by
  by_cases hb : 262144 < n
  · rw [decide_eq_true hb]
    go_enter Try.func7, Try.ntmps7
    go_wp2
    refine wp_loop_rounds 1 ?_
    rw [rounds_succ]
    go_wp2
    go_ret
    exact ⟨rfl, rfl⟩
  · rw [decide_eq_false hb]
    go_enter Try.func7, Try.ntmps7
    go_wp2
    refine wp_loop_rounds 2 ?_
    rw [rounds_succ]
    go_wp2
    rw [rounds_succ]
    go_wp2
    go_ret
    exact ⟨rfl, rfl⟩
end Go.Proofs.Ytndgdpefoidfbaa
