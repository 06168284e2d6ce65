/- Texts joined: QuLs QuB1. -/
import Derived.Test.YtgiicendejgklaaZ18
import Derived.Test.YtgiicendejgklaaZ28
import Derived.Deep.RegionHeld3
/- How great feeds and links are, as they come in: FeedSize, LinkSize, size. mkQuLs.py writes it. -/
namespace Go.Proofs.Ytgiicendejgklaa
open Go.RowKit Go.Maps
def fdN (f : Fd) : Nat := 1 + cmN f.cm + mlN f.ml
def fsN (l : List Fd) : Nat := (l.map fdN).foldr (· + ·) 0
def esN (l : List Er) : Nat := (l.map (fun e => fdN e.fd)).foldr (· + ·) 0
def lkN (l : Lk) : Nat := 1 + l.q.length + l.ea.length + fsN l.q + esN l.ea
def lsN17 (l : List Lk) : Nat := (l.map lkN).foldr (· + ·) 0
theorem fsN_take {l : List Fd} {i : Nat} {m : Fd} (h : l[i]? = some m) : fsN (l.take (i + 1)) = fsN (l.take i) + fdN m := by
  unfold fsN
  rw [List.take_add_one, h, List.map_append]
  exact sum_snoc _ _
theorem esN_take {l : List Er} {i : Nat} {m : Er} (h : l[i]? = some m) : esN (l.take (i + 1)) = esN (l.take i) + fdN m.fd := by
  unfold esN
  rw [List.take_add_one, h, List.map_append]
  exact sum_snoc _ _
theorem lsN_take17 {l : List Lk} {i : Nat} {m : Lk} (h : l[i]? = some m) : lsN17 (l.take (i + 1)) = lsN17 (l.take i) + lkN m := by
  unfold lsN17
  rw [List.take_add_one, h, List.map_append]
  exact sum_snoc _ _
def fdB (f : Fd) : Prop := (∀ z ∈ [f.ml.c0, f.ml.c1, f.ml.c2, f.ml.n0, f.ml.n1, f.ml.n2, f.ml.n3, f.ml.n4], -9223372036854775808 ≤ z ∧ z ≤ 9223372036854775807) ∧ ∀ z ∈ [f.n0, f.n1, f.n2, f.n3, f.n4], -9223372036854775808 ≤ z ∧ z ≤ 9223372036854775807
def kFw : EK Fd Fx := { kFd with
  R := fun w f x => FdR w f x ∧ fdB f
  one := fun _ _ _ h v hv => fd_one h.1 v hv
  bw := fun _ _ _ _ h hb => ⟨h.1.bw hb, h.2⟩ }
def kEw : EK Er Fx := { kEr with
  R := fun w e x => FdR w e.fd x ∧ fdB e.fd
  one := fun _ _ _ h v hv => er_one h.1 v hv
  bw := fun _ _ _ _ h hb => ⟨h.1.bw hb, h.2⟩ }
structure LkW (w : World) (l : Lk) (x : Lx) : Prop where
  q : RdL kFw w x.qv l.q x.qx
  e : RdL kEw w x.ev l.ea x.ex
  qn : l.q.length ≤ 140737488355328
  en : l.ea.length ≤ 140737488355328
theorem LkW.bw {w w' : World} {l : Lk} {x : Lx} (h : LkW w l x) (hb : Below w.heap.size w w') : LkW w' l x := ⟨h.q.bw hb, h.e.bw hb, h.qn, h.en⟩
def kLw : EK Lk Lx := { kLk with
  R := LkW
  one := fun _ l x h => by
    intro u hu
    obtain ⟨a1, k1, e1⟩ := rdl_slice h.q
    obtain ⟨a2, k2, e2⟩ := rdl_slice h.e
    change u ∈ lkC l x.qv x.ev at hu
    simp only [lkC, e1, e2, List.mem_cons, List.not_mem_nil, or_false] at hu
    rcases hu with rfl | rfl | rfl | rfl | rfl <;> rfl
  bw := fun _ _ _ _ h hb => LkW.bw h hb }
theorem infoCmS17 : (Try.prog.info? 32).map (·.size) = some 15 := by kernel_rfl
theorem infoMlS17 : (Try.prog.info? 41).map (·.size) = some 30 := by kernel_rfl
set_option maxRecDepth 100000 in
set_option maxHeartbeats 1000000 in
theorem fdsize_any {w : World} {f : Fd} {x : Fx} (h : FdR w f x) :
    Calls Try.prog 10 #[.agg (fdC f x).toArray] w fun e w' => ∃ n : Nat, e = .returned (.int .i64 (n : Int)) ∧ n ≤ 5700000000000000 ∧ (n ≤ 262144 → n = fdN f) ∧ Below w.heap.size w w' := by
  obtain ⟨w0, hw0⟩ : ∃ w0, w0 = w.alloc (.cells (fdC f x).toArray 43) := ⟨_, rfl⟩
  have bl : Below w.heap.size w w0 := by rw [hw0]; exact bwA _ _
  have kk : w0.heap[w.heap.size]? = some (.cells (fdC f x).toArray 43 (0, 0)) := by rw [hw0]; exact heap_alloc_new _ _
  obtain ⟨CC, hCC⟩ : ∃ z, z = cmC f.cm x.cx := ⟨_, rfl⟩
  obtain ⟨MM, hMM⟩ : ∃ z, z = mlC f.ml x.mx := ⟨_, rfl⟩
  have HS : Hid (∀ V, Below w0.heap.size w0 V → V.rangeAt w.heap.size 3 CC ∧ V.rangeAt w.heap.size 18 MM) := fun V hV => by
    have k := kept_b kk (lt_of_blk kk) hV
    refine ⟨blk_rngQ k (fun j u hj => ?_), blk_rngQ k (fun j u hj => ?_)⟩
    · rw [hCC] at hj
      have : (fdC f x)[3 + j]? = some u := by
        unfold fdC
        rw [show 3 + j = j + 1 + 1 + 1 by omega, List.getElem?_cons_succ, List.getElem?_cons_succ, List.getElem?_cons_succ, List.getElem?_append_left (by exact (List.getElem?_eq_some_iff.1 hj).1)]
        exact hj
      simpa using this
    · rw [hMM] at hj
      have : (fdC f x)[18 + j]? = some u := by
        unfold fdC
        have hl : (cmC f.cm x.cx).length = 15 := rfl
        rw [show 18 + j = (15 + j) + 1 + 1 + 1 by omega, List.getElem?_cons_succ, List.getElem?_cons_succ, List.getElem?_cons_succ, List.getElem?_append_right (by rw [hl]; omega), hl, show 15 + j - 15 = j by omega, List.getElem?_append_left (by exact (List.getElem?_eq_some_iff.1 hj).1)]
        exact hj
      simpa using this
  obtain ⟨W, hWd⟩ : ∃ z, z = w0.drew := ⟨_, rfl⟩
  have bW : Below w0.heap.size w0 W := by rw [hWd]; exact (Below.refl _ _).drew
  have S0 := unhide HS W bW
  have KC : Hid (Calls Try.prog 20 #[.agg CC.toArray] W fun e w' => ∃ n : Nat, e = .returned (.int .i64 (n : Int)) ∧ n ≤ 2251799813685248 ∧ (n ≤ 262144 → n = cmN f.cm) ∧ Below W.heap.size W w') := by
    rw [hCC]; exact cmsize_any (h.c.bw (bw_tr bl bW))
  have KM : Hid (∀ V, Below W.heap.size W V → Calls Try.prog 21 #[.agg MM.toArray] V fun e w' => ∃ n : Nat, e = .returned (.int .i64 (n : Int)) ∧ n ≤ 3377699720527872 ∧ (n ≤ 262144 → n = mlN f.ml) ∧ Below V.heap.size V w') := fun V hV => by
    rw [hMM]; exact mlsize_any (h.m.bw (bw_tr (bw_tr bl bW) hV))
  have HIC : Hid ((Try.prog.info? 32).map (·.size) = some CC.length) := by rw [hCC]; exact infoCmS17
  have HIM : Hid ((Try.prog.info? 41).map (·.size) = some MM.length) := by rw [hMM]; exact infoMlS17
  have HN : Hid (fdN f = 1 + cmN f.cm + mlN f.ml) := rfl
  obtain ⟨FN, hFN⟩ : ∃ z, z = fdN f := ⟨_, rfl⟩
  obtain ⟨CN, hCN⟩ : ∃ z, z = cmN f.cm := ⟨_, rfl⟩
  obtain ⟨MN, hMN⟩ : ∃ z, z = mlN f.ml := ⟨_, rfl⟩
  obtain ⟨CF, hCF⟩ : ∃ z, z = (fdC f x).toArray := ⟨_, rfl⟩
  rw [← hFN, ← hCN, ← hMN] at HN
  rw [← hCN] at KC
  rw [← hMN] at KM
  rw [← hFN, ← hCF]
  rw [← hCF] at hw0
  have HW := hide hw0
  have HWD := hide hWd
  have HBL := hide bl
  have HBW := hide bW
  clear h hw0 bl kk hCC hMM hWd bW hFN hCN hMN hCF
  go_enter Try.func10, Try.ntmps10
  go_upto_region 1 with fail
  rw [← unhide HW]
  clear HW
  refine wp_region_held_drew (S := fun w' : World => (w').rangeAt w.heap.size 3 CC ∧ (w').rangeAt w.heap.size 18 MM) (by kernel_rfl) (by rw [← unhide HWD]; exact S0) (fun hHeld => ?_)
  revert hHeld
  rw [← unhide HWD]
  intro hHeld
  refine wpAnyH_take (i := 0) (oi := { dst := some 3, op := Op.fieldAddr 43 (Operand.tmp 1) 3, type := 0, pos := "size.go:64", after := #[], guard := none }) (v := ?v0r1) rfl (by kernel_rfl) (by kernel_rfl) (by kernel_rfl) (fun _ _ _ h => h) (Or.inl ⟨by rfl, ?hy0r1⟩) (by exact hHeld) ?_
  case hy0r1 => (intro w hSw; (try dsimp only at hSw); go_simp; try (with_reducible rfl))
  try simp only [Act.put, List.setIfInBounds_toArray, List.set_cons_zero, List.set_cons_succ]
  refine wpAnyH_take (i := 4) (oi := { dst := some 7, op := Op.fieldAddr 43 (Operand.tmp 1) 4, type := 0, pos := "size.go:64", after := #[], guard := none }) (v := ?v4r1) rfl (by kernel_rfl) (by kernel_rfl) (by kernel_rfl) (fun _ _ _ h => h) (Or.inl ⟨by rfl, ?hy4r1⟩) (by exact hHeld) ?_
  case hy4r1 => (intro w hSw; (try dsimp only at hSw); go_simp; try (with_reducible rfl))
  try simp only [Act.put, List.setIfInBounds_toArray, List.set_cons_zero, List.set_cons_succ]
  refine wpAnyH_take (i := 1) (oi := { dst := some 4, op := Op.load 32 (Operand.tmp 3), type := 32, pos := "size.go:64", after := #[{ on := 0, ground := Ground.data }], guard := none }) (v := .agg CC.toArray) rfl (by kernel_rfl) (by kernel_rfl) (by kernel_rfl) (fun _ _ _ h => h) (yieldsIf_load_mid (by rfl) 32 (.tmp 3) rfl w.heap.size 3 (by rfl) CC _ (fun _ h => h.1) Try.underlying32 rfl (unhide HIC)) (by exact hHeld) ?_
  try simp only [Act.put, List.setIfInBounds_toArray, List.set_cons_zero, List.set_cons_succ]
  refine wpAnyH_take (i := 5) (oi := { dst := some 8, op := Op.load 41 (Operand.tmp 7), type := 41, pos := "size.go:64", after := #[{ on := 4, ground := Ground.data }], guard := none }) (v := .agg MM.toArray) rfl (by kernel_rfl) (by kernel_rfl) (by kernel_rfl) (fun _ _ _ h => h) (yieldsIf_load_mid (by rfl) 41 (.tmp 7) rfl w.heap.size 18 (by rfl) MM _ (fun _ h => h.2) Try.underlying41 rfl (unhide HIM)) (by exact hHeld) ?_
  try simp only [Act.put, List.setIfInBounds_toArray, List.set_cons_zero, List.set_cons_succ]
  refine wpAnyH_ready (rs := [2]) (by kernel_rfl) (by simp) ?_
  refine AllReadyH.cons (o := { dst := some 5, op := Op.call { callee := Callee.value (Operand.func 20), args := #[Operand.tmp 4], argTypes := #[32] }, type := 3, pos := "size.go:64", after := #[{ on := 1, ground := Ground.data }], guard := none }) rfl (fun K hK => ?_) AllReadyH.nil
  go_simp
  go_at_call 20
  refine (unhide KC).mono ?_
  rintro e_ z1 ⟨n, rfl, hn1, hn2, b1_⟩
  have SZ1 := unhide HS z1 (bw_tr (unhide HBW) b1_)
  have KZ := hide (unhide KM z1 b1_)
  have HX1 := hide (bw_tr (unhide HBW) b1_)
  have HWR : Hid (IntKind.i64.wrap (1 + (n : Int)) = 1 + (n : Int)) := wrap_id (by omega)
  have HN2 := hide hn2
  clear KC KM b1_ hn2
  go_wp2_with fail
  refine hK.out _ _ SZ1 (fun _ => ?_)
  clear hK K
  try simp only [Act.put, List.setIfInBounds_toArray, List.set_cons_zero, List.set_cons_succ]
  refine wpAnyH_take (i := 3) (oi := { dst := some 6, op := Op.binOp BinOp.add 3 (Operand.const (Value.int IntKind.i64 1)) (Operand.tmp 5) 3, type := 3, pos := "size.go:64", after := #[{ on := 2, ground := Ground.data }], guard := none }) (v := .int .i64 (1 + (n : Int))) rfl (by kernel_rfl) (by kernel_rfl) (by kernel_rfl) (fun _ _ _ h => h) (Or.inl ⟨by rfl, ?hy3r1⟩) (by exact SZ1) ?_
  case hy3r1 => (intro w hSw; go_simp; try (exact unhide HWR))
  try simp only [Act.put, List.setIfInBounds_toArray, List.set_cons_zero, List.set_cons_succ]
  refine wpAnyH_ready (rs := [6]) (by kernel_rfl) (by simp) ?_
  refine AllReadyH.cons (o := { dst := some 9, op := Op.call { callee := Callee.value (Operand.func 21), args := #[Operand.tmp 8], argTypes := #[41] }, type := 3, pos := "size.go:64", after := #[{ on := 5, ground := Ground.data }, { on := 2, ground := Ground.chain }], guard := none }) rfl (fun K hK => ?_) AllReadyH.nil
  go_simp
  go_at_call 21
  refine (unhide KZ).mono ?_
  rintro e_ z2 ⟨m, rfl, hm1, hm2, b2_⟩
  have SZ2 := unhide HS z2 (bw_tr (unhide HX1) b2_)
  have HB2 := hide (bw_tr (unhide HBL) (bw_tr (unhide HX1) b2_))
  have HWR2 : Hid (IntKind.i64.wrap (1 + (n : Int) + (m : Int)) = 1 + (n : Int) + (m : Int)) := wrap_id (by omega)
  have HM2 := hide hm2
  clear KZ b2_ hm2
  go_wp2_with fail
  refine hK.out _ _ SZ2 (fun _ => ?_)
  clear hK K
  try simp only [Act.put, List.setIfInBounds_toArray, List.set_cons_zero, List.set_cons_succ]
  refine wpAnyH_take (i := 7) (oi := { dst := some 10, op := Op.binOp BinOp.add 3 (Operand.tmp 6) (Operand.tmp 9) 3, type := 3, pos := "size.go:64", after := #[{ on := 3, ground := Ground.data }, { on := 6, ground := Ground.data }], guard := none }) (v := .int .i64 (1 + (n : Int) + (m : Int))) rfl (by kernel_rfl) (by kernel_rfl) (by kernel_rfl) (fun _ _ _ h => h) (Or.inl ⟨by rfl, ?hy7r1⟩) (by exact SZ2) ?_
  case hy7r1 => (intro w hSw; go_simp; try (exact unhide HWR2))
  try simp only [Act.put, List.setIfInBounds_toArray, List.set_cons_zero, List.set_cons_succ]
  refine wpAnyH_take (i := 8) (oi := { dst := some 2, op := Op.assign (Operand.tmp 10), type := 3, pos := "size.go:64", after := #[{ on := 7, ground := Ground.data }, { on := 6, ground := Ground.chain }, { on := 0, ground := Ground.phase }, { on := 1, ground := Ground.phase }, { on := 2, ground := Ground.phase }, { on := 3, ground := Ground.phase }, { on := 4, ground := Ground.phase }, { on := 5, ground := Ground.phase }, { on := 6, ground := Ground.phase }, { on := 7, ground := Ground.phase }], guard := none }) (v := ?v8r1) rfl (by kernel_rfl) (by kernel_rfl) (by kernel_rfl) (fun _ _ _ h => h) (Or.inl ⟨by rfl, ?hy8r1⟩) (by exact SZ2) ?_
  case hy8r1 => (intro w hSw; (try dsimp only at hSw); go_simp; try (with_reducible rfl))
  try simp only [Act.put, List.setIfInBounds_toArray, List.set_cons_zero, List.set_cons_succ]
  refine wpAnyH_done (by kernel_rfl) ?_ _
  clear S0 SZ1 SZ2 HS HIC HIM HX1 HWR HWR2 HBL HBW
  go_wp2_with fail
  go_ret
  refine ⟨1 + n + m, by rw [show ((1 + n + m : Nat) : Int) = 1 + (n : Int) + (m : Int) by omega]; rfl, by omega, fun hq => ?_, unhide HB2⟩
  have := unhide HN2 (by omega)
  have := unhide HM2 (by omega)
  have := unhide HN
  omega
set_option maxRecDepth 100000 in
set_option maxHeartbeats 1000000 in
theorem lksize_any {w : World} {l : Lk} {x : Lx} (h : LkW w l x) :
    Calls Try.prog 19 #[.agg (lkC l x.qv x.ev).toArray] w fun e w' => ∃ n : Nat, e = .returned (.int .i64 (n : Int)) ∧ n ≤ 6000000000000000 ∧ (n ≤ 262144 → n = lkN l) ∧ Below w.heap.size w w' := by
  obtain ⟨w0, hw0⟩ : ∃ w0, w0 = w.alloc (.cells (lkC l x.qv x.ev).toArray 73) := ⟨_, rfl⟩
  have bl : Below w.heap.size w w0 := by rw [hw0]; exact bwA _ _
  have kk : w0.heap[w.heap.size]? = some (.cells (lkC l x.qv x.ev).toArray 73 (0, 0)) := by rw [hw0]; exact heap_alloc_new _ _
  obtain ⟨aq, cq, hqv⟩ := rdl_slice h.q
  obtain ⟨ae, ce, hev⟩ := rdl_slice h.e
  have hqn := h.qn
  have hen := h.en
  have HQ : Hid (∀ (V : World) (i : Nat), Below w.heap.size w V → i < l.q.length → ∃ (f : Fd) (FS : List Value) (g o : Nat), aq = some ⟨g, o, none⟩ ∧ l.q[i]? = some f ∧ FS.length = 53 ∧ V.rangeAt g (o + i * 53) FS ∧ Calls Try.prog 10 #[.agg FS.toArray] V fun e w' => ∃ n : Nat, e = .returned (.int .i64 (n : Int)) ∧ n ≤ 5700000000000000 ∧ (n ≤ 262144 → n = fdN f) ∧ Below V.heap.size V w') := fun V i hV hi => by
    have h2 := h.q.bw hV
    rw [hqv] at h2
    obtain ⟨f, y, g, o, e1, e2, _, e3, e4⟩ := rdl_at h2 hi
    exact ⟨f, fdC f y, g, o, e1, e2, rfl, e4, fdsize_any e3.1⟩
  have HE : Hid (∀ (V : World) (i : Nat), Below w.heap.size w V → i < l.ea.length → ∃ (f : Er) (FS : List Value) (g o : Nat), ae = some ⟨g, o, none⟩ ∧ l.ea[i]? = some f ∧ FS.length = 53 ∧ V.rangeAt g (o + i * 54 + 1) FS ∧ Calls Try.prog 10 #[.agg FS.toArray] V fun e w' => ∃ n : Nat, e = .returned (.int .i64 (n : Int)) ∧ n ≤ 5700000000000000 ∧ (n ≤ 262144 → n = fdN f.fd) ∧ Below V.heap.size V w') := fun V i hV hi => by
    have h2 := h.e.bw hV
    rw [hev] at h2
    obtain ⟨f, y, g, o, e1, e2, _, e3, e4⟩ := rdl_at h2 hi
    refine ⟨f, fdC f.fd y, g, o, e1, e2, rfl, fun j u hj => ?_, fdsize_any e3.1⟩
    have h5 := e4 (1 + j) u (erC_feed f y j u hj)
    rw [← Nat.add_assoc] at h5
    exact h5
  have HC : Hid (∀ V, Below w0.heap.size w0 V → V.cell? ⟨w.heap.size, 2, none⟩ = some (.slice aq l.q.length cq) ∧ V.cell? ⟨w.heap.size, 4, none⟩ = some (.slice ae l.ea.length ce)) := fun V hV => by
    have k := kept_b kk (lt_of_blk kk) hV
    exact ⟨blk_c (i := 2) k (by show some x.qv = _; rw [hqv]), blk_c (i := 4) k (by show some x.ev = _; rw [hev])⟩
  obtain ⟨NQ, hNQ⟩ : ∃ z, z = l.q.length := ⟨_, rfl⟩
  obtain ⟨NE, hNE⟩ : ∃ z, z = l.ea.length := ⟨_, rfl⟩
  obtain ⟨G, hG⟩ : ∃ z, z = lkN l := ⟨_, rfl⟩
  obtain ⟨CL, hCL⟩ : ∃ z, z = (lkC l x.qv x.ev).toArray := ⟨_, rfl⟩
  rw [← hNQ] at HQ HC hqn
  rw [← hNE] at HE HC hen
  rw [← hG, ← hCL]
  rw [← hCL] at hw0
  have HG := hide (And.intro hG (And.intro hNQ hNE))
  have HW := hide hw0
  have HBL := hide bl
  obtain ⟨c2, c4⟩ := unhide HC w0 (Below.refl _ _)
  have hqI : (NQ : Int) ≤ 140737488355328 := by omega
  have heI : (NE : Int) ≤ 140737488355328 := by omega
  clear h hw0 bl kk hqv hev hG hNQ hNE hCL
  go_enter Try.func19, Try.ntmps19
  go_upto_region 1 with fail
  rw [← unhide HW]
  clear HW
  go_wp2_with fail
  clear c2 c4
  go_loopw [3, 4] (fun nv iv wr => ∃ (i n : Nat), i ≤ NQ ∧ iv = .int .i64 (i : Int) ∧ nv = .int .i64 (n : Int) ∧ n ≤ 262144 + 281474976710657 + 5700000000000000 ∧ Hid (Below w0.heap.size w0 wr ∧ (n ≤ 262144 → n = 1 + NQ + NE + fsN (l.q.take i)))) (fun _ iv _ => (NQ - intOf iv).toNat)
  case atStart => exact ⟨0, 1 + NQ + NE, Nat.zero_le _, rfl, by go_num, by omega, Below.refl _ _, fun _ => by simp [fsN]⟩
  case round =>
    obtain ⟨i, n, hi, rfl, rfl, hn, HR⟩ := hrel
    obtain ⟨c2, c4⟩ := unhide HC wr (unhide HR).1
    have hnI : (n : Int) ≤ 9007199254740992 := by omega
    have hi0 : (0 : Int) ≤ (i : Int) := by omega
    by_cases hnb : n ≤ 262144
    · have hnbI : (n : Int) ≤ 262144 := by omega
      by_cases hlt : i < NQ
      · have hiI : (i : Int) < (NQ : Int) := by omega
        obtain ⟨f, FS, g, o, rfl, hm, hfl, hrg, K⟩ := unhide HQ wr i (bw_tr (unhide HBL) (unhide HR).1) hlt
        have HN2 : Hid (fsN (l.q.take (i + 1)) = fsN (l.q.take i) + fdN f) := fsN_take hm
        have HZ := hide (And.intro hrg (show (Try.prog.info? 43).map (·.size) = some FS.length by rw [hfl]; exact infoFdS3))
        have KH := hide K
        clear hm hfl hrg K
        go_wp2_with (refine wpList_load_mid rfl 43 (.tmp 29) rfl g (o + i * 53) (by simp [Act.eval]) FS _ (unhide HZ).1 Try.underlying43 rfl (unhide HZ).2 ?_)
        refine (unhide KH).mono ?_
        rintro e2 w2 ⟨q, rfl, m1, m2, b2⟩
        have hmI : (q : Int) ≤ 5700000000000000 := by omega
        have HR2 : Hid (Below w0.heap.size w0 w2 ∧ (n + q ≤ 262144 → n + q = 1 + NQ + NE + fsN (l.q.take (i + 1)))) := ⟨bw_tr (unhide HR).1 b2, fun c => by
          have := (unhide HR).2 (by omega)
          have := m2 (by omega)
          rw [unhide HN2]; omega⟩
        clear KH HZ HN2 m2 b2 HR c2 c4
        go_wp2_with fail
        go_roundw
        case rel => exact ⟨i + 1, n + q, by omega, by go_num, by go_num, by omega, HR2⟩
        case measure => simp only [intOf]; omega
      · obtain rfl : i = NQ := by omega
        have hd : decide ((i : Int) < (i : Int)) = false := by simp
        have HR0 : Hid (Below w0.heap.size w0 wr ∧ n = 1 + i + NE + fsN l.q) := ⟨(unhide HR).1, by
          have h1 := (unhide HR).2 hnb
          rw [(unhide HG).2.1, List.take_length, ← (unhide HG).2.1] at h1
          exact h1⟩
        clear HQ HR
        go_wp2_with fail
        clear c2 c4
        go_loopw [3, 5] (fun nv iv wr => ∃ (j m : Nat), j ≤ NE ∧ iv = .int .i64 (j : Int) ∧ nv = .int .i64 (m : Int) ∧ m ≤ 262144 + 281474976710657 + 5700000000000000 ∧ Hid (Below w0.heap.size w0 wr ∧ (m ≤ 262144 → m = 1 + i + NE + fsN l.q + esN (l.ea.take j)))) (fun _ iv _ => (NE - intOf iv).toNat)
        case atStart => exact ⟨0, n, Nat.zero_le _, rfl, rfl, hn, (unhide HR0).1, fun _ => by rw [(unhide HR0).2]; simp [esN]⟩
        case round =>
          clear HR0 hnb hn hnI hnbI
          obtain ⟨j, m, hj, rfl, rfl, hm, HR⟩ := hrel
          obtain ⟨c2, c4⟩ := unhide HC wr (unhide HR).1
          have hmI : (m : Int) ≤ 9007199254740992 := by omega
          have hj0 : (0 : Int) ≤ (j : Int) := by omega
          by_cases hnb : m ≤ 262144
          · have hnbI : (m : Int) ≤ 262144 := by omega
            by_cases hlt : j < NE
            · have hiI : (j : Int) < (NE : Int) := by omega
              obtain ⟨f, FS, g, o, rfl, hm2, hfl, hrg, K⟩ := unhide HE wr j (bw_tr (unhide HBL) (unhide HR).1) hlt
              have HN2 : Hid (esN (l.ea.take (j + 1)) = esN (l.ea.take j) + fdN f.fd) := esN_take hm2
              have HZ := hide (And.intro hrg (show (Try.prog.info? 43).map (·.size) = some FS.length by rw [hfl]; exact infoFdS3))
              have KH := hide K
              clear hm2 hfl hrg K
              go_wp2_with (refine wpList_load_mid rfl 43 (.tmp 49) rfl g (o + j * 54 + 1) (by simp [Act.eval]) FS _ (unhide HZ).1 Try.underlying43 rfl (unhide HZ).2 ?_)
              refine (unhide KH).mono ?_
              rintro e2 w2 ⟨q, rfl, m1, m2, b2⟩
              have hqI2 : (q : Int) ≤ 5700000000000000 := by omega
              have HR2 : Hid (Below w0.heap.size w0 w2 ∧ (m + q ≤ 262144 → m + q = 1 + i + NE + fsN l.q + esN (l.ea.take (j + 1)))) := ⟨bw_tr (unhide HR).1 b2, fun c => by
                have := (unhide HR).2 (by omega)
                have := m2 (by omega)
                rw [unhide HN2]; omega⟩
              clear KH HZ HN2 m2 b2 HR c2 c4
              go_wp2_with fail
              go_roundw
              case rel => exact ⟨j + 1, m + q, by omega, by go_num, by go_num, by omega, HR2⟩
              case measure => simp only [intOf]; omega
            · obtain rfl : j = NE := by omega
              have hd2 : decide ((j : Int) < (j : Int)) = false := by simp
              have HF : Hid (Below w.heap.size w wr ∧ m = G) := ⟨bw_tr (unhide HBL) (unhide HR).1, by
                have h1 := (unhide HR).2 hnb
                rw [(unhide HG).2.2, List.take_length, ← (unhide HG).2.2] at h1
                rw [(unhide HG).1, h1, (unhide HG).2.1, (unhide HG).2.2]; rfl⟩
              clear HE HR
              go_wp2_with fail
              go_ret
              exact ⟨m, rfl, by omega, fun _ => (unhide HF).2, (unhide HF).1⟩
          · have hnbI : (262144 : Int) < (m : Int) := by omega
            have hnd : decide ((m : Int) ≤ 262144) = false := decide_eq_false (by omega)
            have B := hide (bw_tr (unhide HBL) (unhide HR).1)
            clear HE HR
            go_wp2_with fail
            all_goals (go_ret; exact ⟨m, rfl, by omega, fun c => absurd c (by omega), unhide B⟩)
    · have hnbI : (262144 : Int) < (n : Int) := by omega
      have hnd : decide ((n : Int) ≤ 262144) = false := decide_eq_false (by omega)
      have B := hide (unhide HR).1
      clear HQ HE HR
      go_wp2_with fail
      all_goals
        clear c2 c4
        go_loopw [3, 5] (fun nv iv wr => nv = .int .i64 (n : Int) ∧ iv = .int .i64 0 ∧ Hid (Below w0.heap.size w0 wr)) (fun _ _ _ => 0)
        case atStart => exact ⟨rfl, rfl, unhide B⟩
        case round =>
          clear B
          obtain ⟨rfl, rfl, hrel⟩ := hrel
          obtain ⟨c2, c4⟩ := unhide HC wr (unhide hrel)
          have B := hide (bw_tr (unhide HBL) (unhide hrel))
          clear hrel
          go_wp2_with fail
          all_goals (go_ret; exact ⟨n, rfl, by omega, fun c => absurd c (by omega), unhide B⟩)
set_option maxRecDepth 100000 in
set_option maxHeartbeats 1000000 in
theorem size17_any {w : World} {v : Value} {l : List Lk} {xs : List Lx} (h : RdL kLw w v l xs) (hl : l.length ≤ 140737488355328) :
    Calls Try.prog 9 #[v] w fun e w' => ∃ n : Nat, e = .returned (.int .i64 (n : Int)) ∧ n ≤ 9007199254740992 ∧ (n ≤ 262144 → n = l.length + lsN17 l) ∧ Below w.heap.size w w' := by
  obtain ⟨a, cap, rfl⟩ := rdl_slice h
  have HC : Hid (∀ (V : World) (i : Nat), Below w.heap.size w V → i < l.length → ∃ (b : Lk) (CL : List Value) (g o : Nat), a = some ⟨g, o, none⟩ ∧ l[i]? = some b ∧ CL.length = 5 ∧ V.rangeAt g (o + i * 5) CL ∧ Calls Try.prog 19 #[.agg CL.toArray] V fun e w' => ∃ n : Nat, e = .returned (.int .i64 (n : Int)) ∧ n ≤ 6000000000000000 ∧ (n ≤ 262144 → n = lkN b) ∧ Below V.heap.size V w') := fun V i hV hi => by
    obtain ⟨b, y, g, o, e1, e2, _, e3, e4⟩ := rdl_at (h.bw hV) hi
    exact ⟨b, lkC b y.qv y.ev, g, o, e1, e2, rfl, e4, lksize_any e3⟩
  obtain ⟨N, hN⟩ : ∃ N, N = l.length := ⟨_, rfl⟩
  obtain ⟨G, hG⟩ : ∃ G, G = N + lsN17 l := ⟨_, rfl⟩
  rw [← hN] at HC hl ⊢
  rw [← hG]
  have HG := hide (And.intro hG hN)
  have hNI : (N : Int) ≤ 140737488355328 := by omega
  clear h hN hG
  go_enter Try.func9, Try.ntmps9
  go_wp2_with fail
  go_loopw [3, 4] (fun nv iv wr => ∃ (i n : Nat), i ≤ N ∧ iv = .int .i64 (i : Int) ∧ nv = .int .i64 (n : Int) ∧ n ≤ 1048576 + 140737488355328 + 6000000000000000 ∧ Hid (Below w.heap.size w wr ∧ (n ≤ 262144 → n = N + lsN17 (l.take i)))) (fun _ iv _ => (N - intOf iv).toNat)
  case atStart => exact ⟨0, N, Nat.zero_le _, rfl, rfl, by omega, Below.refl _ _, fun _ => by simp [lsN17]⟩
  case round =>
    obtain ⟨i, n, hi, rfl, rfl, hn, HR⟩ := hrel
    have hnI : (n : Int) ≤ 9007199254740992 := by omega
    have hi0 : (0 : Int) ≤ (i : Int) := by omega
    by_cases hlt : i < N
    · have hiI : (i : Int) < (N : Int) := by omega
      by_cases hnb : n < 1048576
      · have hnbI : (n : Int) < 1048576 := by omega
        obtain ⟨b, CL, g, o, rfl, hm, hcl, hrg, K⟩ := unhide HC wr i (unhide HR).1 hlt
        have HN2 : Hid (lsN17 (l.take (i + 1)) = lsN17 (l.take i) + lkN b) := lsN_take17 hm
        have HZ := hide (And.intro hrg (show (Try.prog.info? 73).map (·.size) = some CL.length by rw [hcl]; exact infoLkS))
        have KH := hide K
        clear hm hcl hrg K
        go_wp2_with (refine wpList_load_mid rfl 73 (.tmp 20) rfl g (o + i * 5) (by simp [Act.eval]) CL _ (unhide HZ).1 Try.underlying73 rfl (unhide HZ).2 ?_)
        refine (unhide KH).mono ?_
        rintro e2 w2 ⟨q, rfl, m1, m2, b2⟩
        have hmI : (q : Int) ≤ 6000000000000000 := by omega
        have HR2 : Hid (Below w.heap.size w w2 ∧ (n + q ≤ 262144 → n + q = N + lsN17 (l.take (i + 1)))) := ⟨bw_tr (unhide HR).1 b2, fun c => by
          have := (unhide HR).2 (by omega)
          have := m2 (by omega)
          rw [unhide HN2]; omega⟩
        clear KH HZ HN2 m2 b2 HR
        go_wp2_with fail
        go_roundw
        case rel => exact ⟨i + 1, n + q, by omega, by go_num, by go_num, by omega, HR2⟩
        case measure => simp only [intOf]; omega
      · have hnbI : ¬ (n : Int) < 1048576 := by omega
        have hnd : decide ((n : Int) < 1048576) = false := decide_eq_false hnbI
        have B := hide (unhide HR).1
        clear HC HR
        go_wp2_with fail
        go_ret
        exact ⟨n, rfl, by omega, fun c => absurd c (by omega), unhide B⟩
    · obtain rfl : i = N := by omega
      have HE : Hid (Below w.heap.size w wr ∧ (n ≤ 262144 → n = G)) := ⟨(unhide HR).1, fun c => by
        have h1 := (unhide HR).2 c
        rw [(unhide HG).2, List.take_length, ← (unhide HG).2] at h1
        rw [(unhide HG).1]; exact h1⟩
      have hd : decide ((i : Int) < (i : Int)) = false := by simp
      clear HC HR
      go_wp2_with fail
      go_ret
      exact ⟨n, rfl, by omega, (unhide HE).2, (unhide HE).1⟩
theorem mem_usum17 {T : List Nd} {n : Nd} (h : n ∈ T) : n.un.length ≤ usum T := by
  unfold usum
  induction T with
  | nil => cases h
  | cons m r ih =>
    rcases List.mem_cons.1 h with rfl | h
    · simp
    · have := ih h; simp only [List.map_cons, List.sum_cons]; omega
theorem smF_of {w : World} {f : Fd} {x : Fx} (h : FdR w f x ∧ fdB f) (hn : fdN f ≤ 1048576) : SmF f := by
  unfold fdN at hn
  have hml : mlN f.ml = cmN f.ml.cm + (f.ml.tr.length + usum f.ml.tr) := rfl
  have sc : ∀ {c : Cm} {cx : Cv}, CmR w c cx → cmN c ≤ 1048576 → SmC c := fun {c cx} hc hb => by
    unfold cmN at hb
    exact ⟨by omega, by omega, by omega, by omega, by omega, fun n hn => by have := mem_usum17 hn; omega, hc.adds.fit, hc.seals.fit, hc.joins.fit⟩
  exact ⟨sc h.1.c (by omega), ⟨sc h.1.m.c (by omega), by omega, fun n hq => by have := mem_usum17 hq; omega, h.2.1⟩, h.2.2⟩
end Go.Proofs.Ytgiicendejgklaa

/- Beyond of one number (out of DkFrame). mkQuAc.py writes it. -/
namespace Go.Proofs.Ytgiicendejgklaa
open Go.RowKit Go.Maps
set_option maxHeartbeats 400000 in
theorem beyond17a (b : Nat) (n : Nat) (c : Nat) (w : World) (hn : n ≤ 9007199254740992) (h0 : w.cell? ⟨b, 0, none⟩ = some (.int .i64 n)) :
    Calls Try.prog 8 #[.slice (some ⟨b, 0, none⟩) 1 c] w fun e w' => e = .returned (.bool (decide (262144 < n))) ∧ w' = w := by
  by_cases hb : 262144 < n
  · rw [decide_eq_true hb]
    go_enter Try.func8, Try.ntmps8
    go_wp2
    refine wp_loop_rounds 1 ?_
    rw [rounds_succ]
    go_wp2
    go_ret
    exact ⟨rfl, rfl⟩
  · rw [decide_eq_false hb]
    go_enter Try.func8, Try.ntmps8
    go_wp2
    refine wp_loop_rounds 2 ?_
    rw [rounds_succ]
    go_wp2
    rw [rounds_succ]
    go_wp2
    go_ret
    exact ⟨rfl, rfl⟩
end Go.Proofs.Ytgiicendejgklaa
