/- Texts joined: QuE QuF QuG. -/
import Derived.Test.YtgiicendejgklaaZ20
/- A link's copy (fresh.Link). mkQuC.py writes it. -/
namespace Go.Proofs.Ytgiicendejgklaa
open Go.RowKit Go.Maps
theorem infoLkS : (Try.prog.info? 73).map (·.size) = some 5 := by kernel_rfl
set_option maxRecDepth 100000 in
set_option maxHeartbeats 8000000 in
theorem frLink_any {w : World} {l : Lk} {x : Lx} (h : LkR w l x) (hs : SmL l) :
    Calls Try.prog 37 #[.agg (lkC l x.qv x.ev).toArray] w fun e w' => ∃ x', e = .returned (.agg (lkC l x'.qv x'.ev).toArray) ∧ OL w.heap.size w' l x' ∧ Below w.heap.size w w' := by
  obtain ⟨w0, hw0⟩ : ∃ w0, w0 = (w.alloc (.cells (lkC l x.qv x.ev).toArray 73)).alloc (.cells lk0 73) := ⟨_, rfl⟩
  have s0 : TwoB w w0 73 (lkC l x.qv x.ev).toArray lk0 := by rw [hw0]; exact TwoB.start _ _ _ _
  have sD : TwoB w w0.drew 73 (lkC l x.qv x.ev).toArray lk0 := s0.bw (Below.refl _ _).drew
  have KA : Hid (∀ W, Below w.heap.size w W → Calls Try.prog 51 #[x.qv, .func (.func 26) #[] #[]] W fun e w' => ∃ a' c' xs', e = .returned (.slice a' l.q.length c') ∧ OwL kFd W.heap.size w' (.slice a' l.q.length c') l.q xs' ∧ Below W.heap.size W w') := fun W hW => by
    refine Calls.mono (listFeed_any (h.q.bw hW) hs.qn) ?_
    rintro e w' ⟨v', xs', rfl, h1, h2⟩
    obtain ⟨a', c', rfl⟩ := own_slice h1.row
    exact ⟨a', c', xs', rfl, h1, h2⟩
  have KB : Hid (∀ W, Below w.heap.size w W → Calls Try.prog 52 #[x.ev, .func (.func 53) #[] #[]] W fun e w' => ∃ a' c' xs', e = .returned (.slice a' l.ea.length c') ∧ OwL kEr W.heap.size w' (.slice a' l.ea.length c') l.ea xs' ∧ Below W.heap.size W w') := fun W hW => by
    refine Calls.mono (listEarly_any (h.e.bw hW) hs.en) ?_
    rintro e w' ⟨v', xs', rfl, h1, h2⟩
    obtain ⟨a', c', rfl⟩ := own_slice h1.row
    exact ⟨a', c', xs', rfl, h1, h2⟩
  have hqs := rdl_slice h.q
  have hes := rdl_slice h.e
  obtain ⟨qv, qx, ev, ex⟩ := x
  simp only at hqs hes KA KB s0 sD hw0 ⊢
  obtain ⟨aq, cq, rfl⟩ := hqs
  obtain ⟨ae, ce, rfl⟩ := hes
  clear h hs
  obtain ⟨pe, nx, q, exn, ea⟩ := l
  simp only at KA KB s0 sD hw0 ⊢
  unfold lkC at s0 sD hw0 ⊢
  simp only at s0 sD hw0 ⊢
  obtain ⟨NQ, hNQ⟩ : ∃ z, z = q.length := ⟨_, rfl⟩
  obtain ⟨NE, hNE⟩ : ∃ z, z = ea.length := ⟨_, rfl⟩
  rw [← hNQ] at KA s0 sD hw0 ⊢
  rw [← hNE] at KB s0 sD hw0 ⊢
  have HD : Hid (∀ (z1 z2 : World) (a1 a2 : Option Addr) (c1 c2 : Nat) (xs1 xs2 : List Fx), Below w0.drew.heap.size w0.drew z1 → Below z1.heap.size z1 z2 → OwL kFd w0.drew.heap.size z1 (.slice a1 NQ c1) q xs1 → OwL kEr z1.heap.size z2 (.slice a2 NE c2) ea xs2 →
      ∃ V, V = (z2.setCell ⟨w.heap.size, 2, none⟩ (.slice a1 NQ c1)).setCell ⟨w.heap.size, 4, none⟩ (.slice a2 NE c2) ∧ TwoB w V 73 #[.int .i64 pe, .int .i64 nx, .slice a1 NQ c1, .int .i64 exn, .slice a2 NE c2] lk0 ∧ OL (w.heap.size + 2) V ⟨pe, nx, q, exn, ea⟩ ⟨.slice a1 NQ c1, xs1, .slice a2 NE c2, xs2⟩) := fun z1 z2 a1 a2 c1 c2 xs1 xs2 b1 b2 o1 o2 => by
    have q2 := sD.bw (bw_tr b1 b2)
    have p1 := q2.poke 2 (.slice a1 NQ c1)
    have p2 := p1.1.poke 4 (.slice a2 NE c2)
    refine ⟨_, rfl, p2.1, ?_⟩
    have kp : ∀ k, w.heap.size + 2 ≤ k → ((z2.setCell ⟨w.heap.size, 2, none⟩ (.slice a1 NQ c1)).setCell ⟨w.heap.size, 4, none⟩ (.slice a2 NE c2)).heap[k]? = z2.heap[k]? := fun k hk => by rw [p2.2 k hk, p1.2 k hk]
    have h2 : w.heap.size + 2 ≤ w0.drew.heap.size := sD.two
    have o1' := o1.mono h2
    have o2' := o2.mono (Nat.le_trans h2 b1.size)
    refine ⟨o1'.keep (fun k hk => ?_), o2'.keep (fun k hk => kp k (o2'.lt k hk).1), fun k hk hq => ?_⟩
    · rw [kp k (o1'.lt k hk).1]; exact b2.block k (o1'.lt k hk).2
    · have h8 := (o1.lt k hk).2
      have h9 := (o2.lt k hq).1
      omega
  have HCL : Hid (∀ W, Below w0.drew.heap.size w0.drew W → W.cell? ⟨w.heap.size, 2, none⟩ = some (.slice aq NQ cq) ∧ W.cell? ⟨w.heap.size, 4, none⟩ = some (.slice ae NE ce) ∧ ∀ j, W.frozen? ⟨w.heap.size, j, none⟩ = false) := fun W hW => by
    have k := (sD.bw hW).k1
    exact ⟨blk_c k rfl, blk_c k rfl, fun j => froz_b' (i := j) k⟩
  have HW : Hid (w0 = (w.alloc (.cells #[.int .i64 pe, .int .i64 nx, .slice aq NQ cq, .int .i64 exn, .slice ae NE ce] 73)).alloc (.cells #[.int .i64 0, .int .i64 0, .slice none 0 0, .int .i64 0, .slice none 0 0] 73)) := hw0
  have HB0 := hide sD.bel
  have HN := hide (And.intro hNQ hNE)
  have x1 := (unhide HCL _ (Below.refl _ _)).1
  have x4 := (unhide HCL _ (Below.refl _ _)).2.1
  clear s0 sD hw0 hNQ hNE
  go_enter Try.func37, Try.ntmps37
  go_upto_region 1 with fail
  rw [← unhide HW]
  clear HW
  refine wp_region_any (by kernel_rfl) ?_
  change wpAny _ _ _ _ _ _ _ (World.drew _)
  refine wpAny_take (i := 0) (oi := { dst := some 3, op := Op.fieldAddr 73 (Operand.tmp 1) 2, type := 0, pos := "fresh.go:92", after := #[], guard := none }) (v := .pointer (some ⟨w.heap.size, 2, none⟩)) rfl (by kernel_rfl) (by kernel_rfl) (by kernel_rfl) (fun _ _ _ h => h) (Or.inl ⟨by rfl, fun w => by go_simp⟩) ?_
  try simp only [Act.put, List.setIfInBounds_toArray, List.set_cons_zero, List.set_cons_succ]
  refine wpAny_take (i := 3) (oi := { dst := some 6, op := Op.fieldAddr 73 (Operand.tmp 1) 4, type := 0, pos := "fresh.go:92", after := #[], guard := none }) (v := .pointer (some ⟨w.heap.size, 4, none⟩)) rfl (by kernel_rfl) (by kernel_rfl) (by kernel_rfl) (fun _ _ _ h => h) (Or.inl ⟨by rfl, fun w => by go_simp⟩) ?_
  try simp only [Act.put, List.setIfInBounds_toArray, List.set_cons_zero, List.set_cons_succ]
  refine wpAny_ready (rs := [1, 4]) (by kernel_rfl) (by simp) (AllReady.cons (o := { dst := some 4, op := Op.load 52 (Operand.tmp 3), type := 52, pos := "fresh.go:92", after := #[{ on := 0, ground := Ground.data }], guard := none }) rfl (fun K hK => ?_) (AllReady.cons (o := { dst := some 7, op := Op.load 71 (Operand.tmp 6), type := 71, pos := "fresh.go:92", after := #[{ on := 3, ground := Ground.data }], guard := none }) rfl (fun K hK => ?_) AllReady.nil))
  · go_simp
    refine hK _ _ ?_
    clear hK K
    try simp only [Act.put, List.setIfInBounds_toArray, List.set_cons_zero, List.set_cons_succ]
    refine wpAny_ready (rs := [2, 4]) (by kernel_rfl) (by simp) (AllReady.cons (o := { dst := some 5, op := Op.call { callee := Callee.value (Operand.func 51), args := #[Operand.tmp 4, Operand.func 26], argTypes := #[52, 82] }, type := 52, pos := "fresh.go:92", after := #[{ on := 1, ground := Ground.data }], guard := none }) rfl (fun K hK => ?_) (AllReady.cons (o := { dst := some 7, op := Op.load 71 (Operand.tmp 6), type := 71, pos := "fresh.go:92", after := #[{ on := 3, ground := Ground.data }], guard := none }) rfl (fun K hK => ?_) AllReady.nil))
    · go_simp
      refine (unhide KA w0.drew (unhide HB0)).mono ?_
      rintro e_ z1 ⟨a1, c1, xs1, rfl, hO1, b1⟩
      have y4 := (unhide HCL _ b1).2.1
      have HX1 := hide (And.intro hO1 b1)
      clear hO1 b1
      go_wp2_with fail
      try simp only [Act.put, List.setIfInBounds_toArray, List.set_cons_zero, List.set_cons_succ]
      refine wpAny_ready (rs := [4]) (by kernel_rfl) (by simp) (AllReady.cons (o := { dst := some 7, op := Op.load 71 (Operand.tmp 6), type := 71, pos := "fresh.go:92", after := #[{ on := 3, ground := Ground.data }], guard := none }) rfl (fun K hK => ?_) AllReady.nil)
      go_simp
      refine hK _ _ ?_
      clear hK K
      try simp only [Act.put, List.setIfInBounds_toArray, List.set_cons_zero, List.set_cons_succ]
      refine wpAny_take (i := 6) (oi := { dst := some 9, op := Op.fieldAddr 73 (Operand.tmp 1) 2, type := 0, pos := "fresh.go:92", after := #[{ on := 0, ground := Ground.phase }, { on := 1, ground := Ground.phase }, { on := 2, ground := Ground.phase }, { on := 3, ground := Ground.phase }, { on := 4, ground := Ground.phase }, { on := 5, ground := Ground.textOnly Departure.lateStoresUnsure }], guard := none }) (v := .pointer (some ⟨w.heap.size, 2, none⟩)) rfl (by kernel_rfl) (by kernel_rfl) (by kernel_rfl) (fun _ _ _ h => h) (Or.inl ⟨by rfl, fun w => by go_simp⟩) ?_
      try simp only [Act.put, List.setIfInBounds_toArray, List.set_cons_zero, List.set_cons_succ]
      refine wpAny_ready (rs := [5]) (by kernel_rfl) (by simp) (AllReady.cons (o := { dst := some 8, op := Op.call { callee := Callee.value (Operand.func 52), args := #[Operand.tmp 7, Operand.func 53], argTypes := #[71, 118] }, type := 71, pos := "fresh.go:92", after := #[{ on := 4, ground := Ground.data }, { on := 2, ground := Ground.chain }], guard := none }) rfl (fun K hK => ?_) AllReady.nil)
      go_simp
      refine (unhide KB z1 (bw_tr (unhide HB0) (unhide HX1).2)).mono ?_
      rintro e_ z2 ⟨a2, c2, xs2, rfl, hO2, b2⟩
      obtain ⟨u2, u4, uf⟩ := unhide HCL _ (bw_tr (unhide HX1).2 b2)
      obtain ⟨V, hV, hT, hO⟩ := unhide HD z1 z2 a1 a2 c1 c2 xs1 xs2 (unhide HX1).2 b2 (unhide HX1).1 hO2
      have HV := hide hV
      have HF := hide (And.intro hT hO)
      clear hO2 b2 hV hT hO
      go_wp2_with fail
      try simp only [Act.put, List.setIfInBounds_toArray, List.set_cons_zero, List.set_cons_succ]
      refine wpAny_ready (rs := [7]) (by kernel_rfl) (by simp) (AllReady.cons (o := { dst := none, op := Op.store 52 (Operand.tmp 9) (Operand.tmp 5), type := 0, pos := "fresh.go:92", after := #[{ on := 6, ground := Ground.data }, { on := 2, ground := Ground.data }, { on := 5, ground := Ground.chain }, { on := 0, ground := Ground.phase }, { on := 1, ground := Ground.phase }, { on := 2, ground := Ground.phase }, { on := 3, ground := Ground.phase }, { on := 4, ground := Ground.phase }, { on := 5, ground := Ground.textOnly Departure.lateStoresUnsure }], guard := none }) rfl (fun K hK => ?_) AllReady.nil)
      go_simp
      refine hK _ _ ?_
      clear hK K
      try simp only [Act.put]
      refine wpAny_take (i := 8) (oi := { dst := some 10, op := Op.fieldAddr 73 (Operand.tmp 1) 4, type := 0, pos := "fresh.go:92", after := #[{ on := 0, ground := Ground.phase }, { on := 1, ground := Ground.phase }, { on := 2, ground := Ground.phase }, { on := 3, ground := Ground.phase }, { on := 4, ground := Ground.phase }, { on := 5, ground := Ground.phase }, { on := 6, ground := Ground.phase }, { on := 7, ground := Ground.phase }], guard := none }) (v := .pointer (some ⟨w.heap.size, 4, none⟩)) rfl (by kernel_rfl) (by kernel_rfl) (by kernel_rfl) (fun _ _ _ h => h) (Or.inl ⟨by rfl, fun w => by go_simp⟩) ?_
      try simp only [Act.put, List.setIfInBounds_toArray, List.set_cons_zero, List.set_cons_succ]
      refine wpAny_ready (rs := [9]) (by kernel_rfl) (by simp) (AllReady.cons (o := { dst := none, op := Op.store 71 (Operand.tmp 10) (Operand.tmp 8), type := 0, pos := "fresh.go:92", after := #[{ on := 8, ground := Ground.data }, { on := 5, ground := Ground.data }, { on := 7, ground := Ground.chain }, { on := 0, ground := Ground.phase }, { on := 1, ground := Ground.phase }, { on := 2, ground := Ground.phase }, { on := 3, ground := Ground.phase }, { on := 4, ground := Ground.phase }, { on := 5, ground := Ground.phase }, { on := 6, ground := Ground.phase }, { on := 7, ground := Ground.phase }], guard := none }) rfl (fun K hK => ?_) AllReady.nil)
      go_simp
      refine hK _ _ ?_
      clear hK K
      try simp only [Act.put]
      refine wpAny_done (by kernel_rfl) ?_ _
      go_simp
      rw [← unhide HV]
      have s2 := (unhide HF).1
      have an := s2.answer [.int .i64 pe, .int .i64 nx, .slice a1 NQ c1, .int .i64 exn, .slice a2 NE c2] rfl
      obtain ⟨WZ, hWZ⟩ : ∃ W, W = pokes V (w.heap.size + 1) 0 [.int .i64 pe, .int .i64 nx, .slice a1 NQ c1, .int .i64 exn, .slice a2 NE c2] := ⟨_, rfl⟩
      rw [← hWZ] at an
      have HO : Hid (OL w.heap.size WZ ⟨pe, nx, q, exn, ea⟩ ⟨.slice a1 NQ c1, xs1, .slice a2 NE c2, xs2⟩ ∧ Below w.heap.size w WZ) := by
        refine ⟨((unhide HF).2.keep (fun k hk => ?_)).mono (by omega), an.2.1⟩
        have h1 := ((unhide HF).2.lt k hk).1
        exact an.2.2 k (by omega)
      have d0 : V.cell? ⟨w.heap.size, 0, none⟩ = some (.int .i64 pe) := blk_c s2.k1 rfl
      have d1 : V.cell? ⟨w.heap.size, 1, none⟩ = some (.int .i64 nx) := blk_c s2.k1 rfl
      have d2 : V.cell? ⟨w.heap.size, 2, none⟩ = some (.slice a1 NQ c1) := blk_c s2.k1 rfl
      have d3 : V.cell? ⟨w.heap.size, 3, none⟩ = some (.int .i64 exn) := blk_c s2.k1 rfl
      have d4 : V.cell? ⟨w.heap.size, 4, none⟩ = some (.slice a2 NE c2) := blk_c s2.k1 rfl
      have e0 : V.cell? ⟨w.heap.size + 1, 0, none⟩ = some (.int .i64 0) := blk_c s2.k2 rfl
      have e1 : V.cell? ⟨w.heap.size + 1, 1, none⟩ = some (.int .i64 0) := blk_c s2.k2 rfl
      have e2 : V.cell? ⟨w.heap.size + 1, 2, none⟩ = some (.slice none 0 0) := blk_c s2.k2 rfl
      have e3 : V.cell? ⟨w.heap.size + 1, 3, none⟩ = some (.int .i64 0) := blk_c s2.k2 rfl
      have e4 : V.cell? ⟨w.heap.size + 1, 4, none⟩ = some (.slice none 0 0) := blk_c s2.k2 rfl
      have fe := fun j => froz_b' (i := j) s2.k2
      have z0 : WZ.cell? ⟨w.heap.size + 1, 0, none⟩ = some (.int .i64 pe) := blk_c an.1 rfl
      have z1 : WZ.cell? ⟨w.heap.size + 1, 1, none⟩ = some (.int .i64 nx) := blk_c an.1 rfl
      have z2 : WZ.cell? ⟨w.heap.size + 1, 2, none⟩ = some (.slice a1 NQ c1) := blk_c an.1 rfl
      have z3 : WZ.cell? ⟨w.heap.size + 1, 3, none⟩ = some (.int .i64 exn) := blk_c an.1 rfl
      have z4 : WZ.cell? ⟨w.heap.size + 1, 4, none⟩ = some (.slice a2 NE c2) := blk_c an.1 rfl
      have HZ : Hid (WZ = ((((V.setCell ⟨w.heap.size + 1, 0, none⟩ (.int .i64 pe)).setCell ⟨w.heap.size + 1, 1, none⟩ (.int .i64 nx)).setCell ⟨w.heap.size + 1, 2, none⟩ (.slice a1 NQ c1)).setCell ⟨w.heap.size + 1, 3, none⟩ (.int .i64 exn)).setCell ⟨w.heap.size + 1, 4, none⟩ (.slice a2 NE c2)) := hWZ
      clear KA KB HD HCL HX1 HV HF s2 an hWZ HB0
      go_wp2_with fail
      rw [← unhide HZ]
      exact bodyPost_ret (v := .agg #[.int .i64 pe, .int .i64 nx, .slice a1 NQ c1, .int .i64 exn, .slice a2 NE c2]) (by simp [results, Try.results37, go_sem, z0, z1, z2, z3, z4]) rfl ⟨⟨.slice a1 NQ c1, xs1, .slice a2 NE c2, xs2⟩, rfl, (unhide HO).1, (unhide HO).2⟩
    · go_simp
      refine hK _ _ ?_
      clear hK K
      try simp only [Act.put, List.setIfInBounds_toArray, List.set_cons_zero, List.set_cons_succ]
      refine wpAny_ready (rs := [2]) (by kernel_rfl) (by simp) (AllReady.cons (o := { dst := some 5, op := Op.call { callee := Callee.value (Operand.func 51), args := #[Operand.tmp 4, Operand.func 26], argTypes := #[52, 82] }, type := 52, pos := "fresh.go:92", after := #[{ on := 1, ground := Ground.data }], guard := none }) rfl (fun K hK => ?_) AllReady.nil)
      go_simp
      refine (unhide KA w0.drew (unhide HB0)).mono ?_
      rintro e_ z1 ⟨a1, c1, xs1, rfl, hO1, b1⟩
      have y4 := (unhide HCL _ b1).2.1
      have HX1 := hide (And.intro hO1 b1)
      clear hO1 b1
      go_wp2_with fail
      try simp only [Act.put, List.setIfInBounds_toArray, List.set_cons_zero, List.set_cons_succ]
      refine wpAny_take (i := 6) (oi := { dst := some 9, op := Op.fieldAddr 73 (Operand.tmp 1) 2, type := 0, pos := "fresh.go:92", after := #[{ on := 0, ground := Ground.phase }, { on := 1, ground := Ground.phase }, { on := 2, ground := Ground.phase }, { on := 3, ground := Ground.phase }, { on := 4, ground := Ground.phase }, { on := 5, ground := Ground.textOnly Departure.lateStoresUnsure }], guard := none }) (v := .pointer (some ⟨w.heap.size, 2, none⟩)) rfl (by kernel_rfl) (by kernel_rfl) (by kernel_rfl) (fun _ _ _ h => h) (Or.inl ⟨by rfl, fun w => by go_simp⟩) ?_
      try simp only [Act.put, List.setIfInBounds_toArray, List.set_cons_zero, List.set_cons_succ]
      refine wpAny_ready (rs := [5]) (by kernel_rfl) (by simp) (AllReady.cons (o := { dst := some 8, op := Op.call { callee := Callee.value (Operand.func 52), args := #[Operand.tmp 7, Operand.func 53], argTypes := #[71, 118] }, type := 71, pos := "fresh.go:92", after := #[{ on := 4, ground := Ground.data }, { on := 2, ground := Ground.chain }], guard := none }) rfl (fun K hK => ?_) AllReady.nil)
      go_simp
      refine (unhide KB z1 (bw_tr (unhide HB0) (unhide HX1).2)).mono ?_
      rintro e_ z2 ⟨a2, c2, xs2, rfl, hO2, b2⟩
      obtain ⟨u2, u4, uf⟩ := unhide HCL _ (bw_tr (unhide HX1).2 b2)
      obtain ⟨V, hV, hT, hO⟩ := unhide HD z1 z2 a1 a2 c1 c2 xs1 xs2 (unhide HX1).2 b2 (unhide HX1).1 hO2
      have HV := hide hV
      have HF := hide (And.intro hT hO)
      clear hO2 b2 hV hT hO
      go_wp2_with fail
      try simp only [Act.put, List.setIfInBounds_toArray, List.set_cons_zero, List.set_cons_succ]
      refine wpAny_ready (rs := [7]) (by kernel_rfl) (by simp) (AllReady.cons (o := { dst := none, op := Op.store 52 (Operand.tmp 9) (Operand.tmp 5), type := 0, pos := "fresh.go:92", after := #[{ on := 6, ground := Ground.data }, { on := 2, ground := Ground.data }, { on := 5, ground := Ground.chain }, { on := 0, ground := Ground.phase }, { on := 1, ground := Ground.phase }, { on := 2, ground := Ground.phase }, { on := 3, ground := Ground.phase }, { on := 4, ground := Ground.phase }, { on := 5, ground := Ground.textOnly Departure.lateStoresUnsure }], guard := none }) rfl (fun K hK => ?_) AllReady.nil)
      go_simp
      refine hK _ _ ?_
      clear hK K
      try simp only [Act.put]
      refine wpAny_take (i := 8) (oi := { dst := some 10, op := Op.fieldAddr 73 (Operand.tmp 1) 4, type := 0, pos := "fresh.go:92", after := #[{ on := 0, ground := Ground.phase }, { on := 1, ground := Ground.phase }, { on := 2, ground := Ground.phase }, { on := 3, ground := Ground.phase }, { on := 4, ground := Ground.phase }, { on := 5, ground := Ground.phase }, { on := 6, ground := Ground.phase }, { on := 7, ground := Ground.phase }], guard := none }) (v := .pointer (some ⟨w.heap.size, 4, none⟩)) rfl (by kernel_rfl) (by kernel_rfl) (by kernel_rfl) (fun _ _ _ h => h) (Or.inl ⟨by rfl, fun w => by go_simp⟩) ?_
      try simp only [Act.put, List.setIfInBounds_toArray, List.set_cons_zero, List.set_cons_succ]
      refine wpAny_ready (rs := [9]) (by kernel_rfl) (by simp) (AllReady.cons (o := { dst := none, op := Op.store 71 (Operand.tmp 10) (Operand.tmp 8), type := 0, pos := "fresh.go:92", after := #[{ on := 8, ground := Ground.data }, { on := 5, ground := Ground.data }, { on := 7, ground := Ground.chain }, { on := 0, ground := Ground.phase }, { on := 1, ground := Ground.phase }, { on := 2, ground := Ground.phase }, { on := 3, ground := Ground.phase }, { on := 4, ground := Ground.phase }, { on := 5, ground := Ground.phase }, { on := 6, ground := Ground.phase }, { on := 7, ground := Ground.phase }], guard := none }) rfl (fun K hK => ?_) AllReady.nil)
      go_simp
      refine hK _ _ ?_
      clear hK K
      try simp only [Act.put]
      refine wpAny_done (by kernel_rfl) ?_ _
      go_simp
      rw [← unhide HV]
      have s2 := (unhide HF).1
      have an := s2.answer [.int .i64 pe, .int .i64 nx, .slice a1 NQ c1, .int .i64 exn, .slice a2 NE c2] rfl
      obtain ⟨WZ, hWZ⟩ : ∃ W, W = pokes V (w.heap.size + 1) 0 [.int .i64 pe, .int .i64 nx, .slice a1 NQ c1, .int .i64 exn, .slice a2 NE c2] := ⟨_, rfl⟩
      rw [← hWZ] at an
      have HO : Hid (OL w.heap.size WZ ⟨pe, nx, q, exn, ea⟩ ⟨.slice a1 NQ c1, xs1, .slice a2 NE c2, xs2⟩ ∧ Below w.heap.size w WZ) := by
        refine ⟨((unhide HF).2.keep (fun k hk => ?_)).mono (by omega), an.2.1⟩
        have h1 := ((unhide HF).2.lt k hk).1
        exact an.2.2 k (by omega)
      have d0 : V.cell? ⟨w.heap.size, 0, none⟩ = some (.int .i64 pe) := blk_c s2.k1 rfl
      have d1 : V.cell? ⟨w.heap.size, 1, none⟩ = some (.int .i64 nx) := blk_c s2.k1 rfl
      have d2 : V.cell? ⟨w.heap.size, 2, none⟩ = some (.slice a1 NQ c1) := blk_c s2.k1 rfl
      have d3 : V.cell? ⟨w.heap.size, 3, none⟩ = some (.int .i64 exn) := blk_c s2.k1 rfl
      have d4 : V.cell? ⟨w.heap.size, 4, none⟩ = some (.slice a2 NE c2) := blk_c s2.k1 rfl
      have e0 : V.cell? ⟨w.heap.size + 1, 0, none⟩ = some (.int .i64 0) := blk_c s2.k2 rfl
      have e1 : V.cell? ⟨w.heap.size + 1, 1, none⟩ = some (.int .i64 0) := blk_c s2.k2 rfl
      have e2 : V.cell? ⟨w.heap.size + 1, 2, none⟩ = some (.slice none 0 0) := blk_c s2.k2 rfl
      have e3 : V.cell? ⟨w.heap.size + 1, 3, none⟩ = some (.int .i64 0) := blk_c s2.k2 rfl
      have e4 : V.cell? ⟨w.heap.size + 1, 4, none⟩ = some (.slice none 0 0) := blk_c s2.k2 rfl
      have fe := fun j => froz_b' (i := j) s2.k2
      have z0 : WZ.cell? ⟨w.heap.size + 1, 0, none⟩ = some (.int .i64 pe) := blk_c an.1 rfl
      have z1 : WZ.cell? ⟨w.heap.size + 1, 1, none⟩ = some (.int .i64 nx) := blk_c an.1 rfl
      have z2 : WZ.cell? ⟨w.heap.size + 1, 2, none⟩ = some (.slice a1 NQ c1) := blk_c an.1 rfl
      have z3 : WZ.cell? ⟨w.heap.size + 1, 3, none⟩ = some (.int .i64 exn) := blk_c an.1 rfl
      have z4 : WZ.cell? ⟨w.heap.size + 1, 4, none⟩ = some (.slice a2 NE c2) := blk_c an.1 rfl
      have HZ : Hid (WZ = ((((V.setCell ⟨w.heap.size + 1, 0, none⟩ (.int .i64 pe)).setCell ⟨w.heap.size + 1, 1, none⟩ (.int .i64 nx)).setCell ⟨w.heap.size + 1, 2, none⟩ (.slice a1 NQ c1)).setCell ⟨w.heap.size + 1, 3, none⟩ (.int .i64 exn)).setCell ⟨w.heap.size + 1, 4, none⟩ (.slice a2 NE c2)) := hWZ
      clear KA KB HD HCL HX1 HV HF s2 an hWZ HB0
      go_wp2_with fail
      rw [← unhide HZ]
      exact bodyPost_ret (v := .agg #[.int .i64 pe, .int .i64 nx, .slice a1 NQ c1, .int .i64 exn, .slice a2 NE c2]) (by simp [results, Try.results37, go_sem, z0, z1, z2, z3, z4]) rfl ⟨⟨.slice a1 NQ c1, xs1, .slice a2 NE c2, xs2⟩, rfl, (unhide HO).1, (unhide HO).2⟩
  · go_simp
    refine hK _ _ ?_
    clear hK K
    try simp only [Act.put, List.setIfInBounds_toArray, List.set_cons_zero, List.set_cons_succ]
    refine wpAny_ready (rs := [1]) (by kernel_rfl) (by simp) (AllReady.cons (o := { dst := some 4, op := Op.load 52 (Operand.tmp 3), type := 52, pos := "fresh.go:92", after := #[{ on := 0, ground := Ground.data }], guard := none }) rfl (fun K hK => ?_) AllReady.nil)
    go_simp
    refine hK _ _ ?_
    clear hK K
    try simp only [Act.put, List.setIfInBounds_toArray, List.set_cons_zero, List.set_cons_succ]
    refine wpAny_ready (rs := [2]) (by kernel_rfl) (by simp) (AllReady.cons (o := { dst := some 5, op := Op.call { callee := Callee.value (Operand.func 51), args := #[Operand.tmp 4, Operand.func 26], argTypes := #[52, 82] }, type := 52, pos := "fresh.go:92", after := #[{ on := 1, ground := Ground.data }], guard := none }) rfl (fun K hK => ?_) AllReady.nil)
    go_simp
    refine (unhide KA w0.drew (unhide HB0)).mono ?_
    rintro e_ z1 ⟨a1, c1, xs1, rfl, hO1, b1⟩
    have y4 := (unhide HCL _ b1).2.1
    have HX1 := hide (And.intro hO1 b1)
    clear hO1 b1
    go_wp2_with fail
    try simp only [Act.put, List.setIfInBounds_toArray, List.set_cons_zero, List.set_cons_succ]
    refine wpAny_take (i := 6) (oi := { dst := some 9, op := Op.fieldAddr 73 (Operand.tmp 1) 2, type := 0, pos := "fresh.go:92", after := #[{ on := 0, ground := Ground.phase }, { on := 1, ground := Ground.phase }, { on := 2, ground := Ground.phase }, { on := 3, ground := Ground.phase }, { on := 4, ground := Ground.phase }, { on := 5, ground := Ground.textOnly Departure.lateStoresUnsure }], guard := none }) (v := .pointer (some ⟨w.heap.size, 2, none⟩)) rfl (by kernel_rfl) (by kernel_rfl) (by kernel_rfl) (fun _ _ _ h => h) (Or.inl ⟨by rfl, fun w => by go_simp⟩) ?_
    try simp only [Act.put, List.setIfInBounds_toArray, List.set_cons_zero, List.set_cons_succ]
    refine wpAny_ready (rs := [5]) (by kernel_rfl) (by simp) (AllReady.cons (o := { dst := some 8, op := Op.call { callee := Callee.value (Operand.func 52), args := #[Operand.tmp 7, Operand.func 53], argTypes := #[71, 118] }, type := 71, pos := "fresh.go:92", after := #[{ on := 4, ground := Ground.data }, { on := 2, ground := Ground.chain }], guard := none }) rfl (fun K hK => ?_) AllReady.nil)
    go_simp
    refine (unhide KB z1 (bw_tr (unhide HB0) (unhide HX1).2)).mono ?_
    rintro e_ z2 ⟨a2, c2, xs2, rfl, hO2, b2⟩
    obtain ⟨u2, u4, uf⟩ := unhide HCL _ (bw_tr (unhide HX1).2 b2)
    obtain ⟨V, hV, hT, hO⟩ := unhide HD z1 z2 a1 a2 c1 c2 xs1 xs2 (unhide HX1).2 b2 (unhide HX1).1 hO2
    have HV := hide hV
    have HF := hide (And.intro hT hO)
    clear hO2 b2 hV hT hO
    go_wp2_with fail
    try simp only [Act.put, List.setIfInBounds_toArray, List.set_cons_zero, List.set_cons_succ]
    refine wpAny_ready (rs := [7]) (by kernel_rfl) (by simp) (AllReady.cons (o := { dst := none, op := Op.store 52 (Operand.tmp 9) (Operand.tmp 5), type := 0, pos := "fresh.go:92", after := #[{ on := 6, ground := Ground.data }, { on := 2, ground := Ground.data }, { on := 5, ground := Ground.chain }, { on := 0, ground := Ground.phase }, { on := 1, ground := Ground.phase }, { on := 2, ground := Ground.phase }, { on := 3, ground := Ground.phase }, { on := 4, ground := Ground.phase }, { on := 5, ground := Ground.textOnly Departure.lateStoresUnsure }], guard := none }) rfl (fun K hK => ?_) AllReady.nil)
    go_simp
    refine hK _ _ ?_
    clear hK K
    try simp only [Act.put]
    refine wpAny_take (i := 8) (oi := { dst := some 10, op := Op.fieldAddr 73 (Operand.tmp 1) 4, type := 0, pos := "fresh.go:92", after := #[{ on := 0, ground := Ground.phase }, { on := 1, ground := Ground.phase }, { on := 2, ground := Ground.phase }, { on := 3, ground := Ground.phase }, { on := 4, ground := Ground.phase }, { on := 5, ground := Ground.phase }, { on := 6, ground := Ground.phase }, { on := 7, ground := Ground.phase }], guard := none }) (v := .pointer (some ⟨w.heap.size, 4, none⟩)) rfl (by kernel_rfl) (by kernel_rfl) (by kernel_rfl) (fun _ _ _ h => h) (Or.inl ⟨by rfl, fun w => by go_simp⟩) ?_
    try simp only [Act.put, List.setIfInBounds_toArray, List.set_cons_zero, List.set_cons_succ]
    refine wpAny_ready (rs := [9]) (by kernel_rfl) (by simp) (AllReady.cons (o := { dst := none, op := Op.store 71 (Operand.tmp 10) (Operand.tmp 8), type := 0, pos := "fresh.go:92", after := #[{ on := 8, ground := Ground.data }, { on := 5, ground := Ground.data }, { on := 7, ground := Ground.chain }, { on := 0, ground := Ground.phase }, { on := 1, ground := Ground.phase }, { on := 2, ground := Ground.phase }, { on := 3, ground := Ground.phase }, { on := 4, ground := Ground.phase }, { on := 5, ground := Ground.phase }, { on := 6, ground := Ground.phase }, { on := 7, ground := Ground.phase }], guard := none }) rfl (fun K hK => ?_) AllReady.nil)
    go_simp
    refine hK _ _ ?_
    clear hK K
    try simp only [Act.put]
    refine wpAny_done (by kernel_rfl) ?_ _
    go_simp
    rw [← unhide HV]
    have s2 := (unhide HF).1
    have an := s2.answer [.int .i64 pe, .int .i64 nx, .slice a1 NQ c1, .int .i64 exn, .slice a2 NE c2] rfl
    obtain ⟨WZ, hWZ⟩ : ∃ W, W = pokes V (w.heap.size + 1) 0 [.int .i64 pe, .int .i64 nx, .slice a1 NQ c1, .int .i64 exn, .slice a2 NE c2] := ⟨_, rfl⟩
    rw [← hWZ] at an
    have HO : Hid (OL w.heap.size WZ ⟨pe, nx, q, exn, ea⟩ ⟨.slice a1 NQ c1, xs1, .slice a2 NE c2, xs2⟩ ∧ Below w.heap.size w WZ) := by
      refine ⟨((unhide HF).2.keep (fun k hk => ?_)).mono (by omega), an.2.1⟩
      have h1 := ((unhide HF).2.lt k hk).1
      exact an.2.2 k (by omega)
    have d0 : V.cell? ⟨w.heap.size, 0, none⟩ = some (.int .i64 pe) := blk_c s2.k1 rfl
    have d1 : V.cell? ⟨w.heap.size, 1, none⟩ = some (.int .i64 nx) := blk_c s2.k1 rfl
    have d2 : V.cell? ⟨w.heap.size, 2, none⟩ = some (.slice a1 NQ c1) := blk_c s2.k1 rfl
    have d3 : V.cell? ⟨w.heap.size, 3, none⟩ = some (.int .i64 exn) := blk_c s2.k1 rfl
    have d4 : V.cell? ⟨w.heap.size, 4, none⟩ = some (.slice a2 NE c2) := blk_c s2.k1 rfl
    have e0 : V.cell? ⟨w.heap.size + 1, 0, none⟩ = some (.int .i64 0) := blk_c s2.k2 rfl
    have e1 : V.cell? ⟨w.heap.size + 1, 1, none⟩ = some (.int .i64 0) := blk_c s2.k2 rfl
    have e2 : V.cell? ⟨w.heap.size + 1, 2, none⟩ = some (.slice none 0 0) := blk_c s2.k2 rfl
    have e3 : V.cell? ⟨w.heap.size + 1, 3, none⟩ = some (.int .i64 0) := blk_c s2.k2 rfl
    have e4 : V.cell? ⟨w.heap.size + 1, 4, none⟩ = some (.slice none 0 0) := blk_c s2.k2 rfl
    have fe := fun j => froz_b' (i := j) s2.k2
    have z0 : WZ.cell? ⟨w.heap.size + 1, 0, none⟩ = some (.int .i64 pe) := blk_c an.1 rfl
    have z1 : WZ.cell? ⟨w.heap.size + 1, 1, none⟩ = some (.int .i64 nx) := blk_c an.1 rfl
    have z2 : WZ.cell? ⟨w.heap.size + 1, 2, none⟩ = some (.slice a1 NQ c1) := blk_c an.1 rfl
    have z3 : WZ.cell? ⟨w.heap.size + 1, 3, none⟩ = some (.int .i64 exn) := blk_c an.1 rfl
    have z4 : WZ.cell? ⟨w.heap.size + 1, 4, none⟩ = some (.slice a2 NE c2) := blk_c an.1 rfl
    have HZ : Hid (WZ = ((((V.setCell ⟨w.heap.size + 1, 0, none⟩ (.int .i64 pe)).setCell ⟨w.heap.size + 1, 1, none⟩ (.int .i64 nx)).setCell ⟨w.heap.size + 1, 2, none⟩ (.slice a1 NQ c1)).setCell ⟨w.heap.size + 1, 3, none⟩ (.int .i64 exn)).setCell ⟨w.heap.size + 1, 4, none⟩ (.slice a2 NE c2)) := hWZ
    clear KA KB HD HCL HX1 HV HF s2 an hWZ HB0
    go_wp2_with fail
    rw [← unhide HZ]
    exact bodyPost_ret (v := .agg #[.int .i64 pe, .int .i64 nx, .slice a1 NQ c1, .int .i64 exn, .slice a2 NE c2]) (by simp [results, Try.results37, go_sem, z0, z1, z2, z3, z4]) rfl ⟨⟨.slice a1 NQ c1, xs1, .slice a2 NE c2, xs2⟩, rfl, (unhide HO).1, (unhide HO).2⟩
end Go.Proofs.Ytgiicendejgklaa

/- Lists of links: copies (fresh.List). mkQuC.py writes it. -/
namespace Go.Proofs.Ytgiicendejgklaa
open Go.RowKit Go.Maps
theorem lkC_len (l : Lk) (v u : Value) : (lkC l v u).length = 5 := rfl
set_option maxRecDepth 100000 in
set_option maxHeartbeats 8000000 in
theorem listLink_any {w : World} {v : Value} {l : List Lk} {xs : List Lx} (h : RdL kLk w v l xs) (hl : l.length ≤ 1073741824) :
    Calls Try.prog 36 #[v, .func (.func 37) #[] #[]] w fun e w' => ∃ v' xs', e = .returned v' ∧ OwL kLk w.heap.size w' v' l xs' ∧ Below w.heap.size w w' := by
  obtain ⟨ad, cap, rfl, hsrc⟩ := h.form
  have KC := hide (cloneLink_any (w := w) (a := ad) (cap := cap) (cs := cellK kLk l xs) (cellK_len h.xl) (cellK_one h.xl h.el) hl (hsrc.imp (fun c => by rw [c]; rfl) (fun c => c)))
  have HC : Hid (∀ (w1 wr : World) (v : Value) (g : Nat) (xs : List Lx) (i : Nat), CpL kLk w.heap.size w w1 wr v g l xs i → i < l.length → ∃ (a : Lk) (cs : List Value), l[i]? = some a ∧ cs.length = 5 ∧ (∀ u ∈ cs, u.oneCell' = true) ∧ wr.rangeAt g (i * 5) cs ∧ wr.there g (i * 5) 5 ∧
      ∀ W, Below w.heap.size w W → Calls Try.prog 37 #[.agg cs.toArray] W fun x w' => ∃ (x' : Lx) (cs' : List Value), x = .returned (.agg cs'.toArray) ∧ Hid (cs'.length = 5 ∧ (∀ u ∈ cs', u.oneCell' = true) ∧ OL W.heap.size w' a x' ∧ lkC a x'.qv x'.ev = cs') ∧ Below W.heap.size W w') := by
    intro w1 wr v g xs i hcp hi
    obtain ⟨a, x, ha, hx, hR, hc⟩ := hcp.at hi
    refine ⟨a, lkC a x.qv x.ev, ha, rfl, lk_one hR.1, hc, fun j hj => ⟨?_, own_frozen hcp.row hcp.own _⟩, fun W hW => ?_⟩
    · have : (lkC a x.qv x.ev)[j]? = some ((lkC a x.qv x.ev)[j]'(by rw [lkC_len]; exact hj)) := List.getElem?_eq_getElem _
      rw [show wr.cell? ⟨g, i * 5 + j, none⟩ = _ from hc j _ this]; rfl
    · refine (frLink_any (w := W) (hR.1.bw hW) hR.2).mono ?_
      rintro y w' ⟨x', rfl, ho, hb⟩
      exact ⟨x', _, rfl, ⟨rfl, lk_one (OL.rd ho hR.2), ho, rfl⟩, hb⟩
  have HR := hide h
  obtain ⟨N, hN⟩ : ∃ N, N = l.length := ⟨_, rfl⟩
  rw [← hN] at KC HC hl ⊢
  have hNI : (N : Int) ≤ 1073741824 := by omega
  have HN := hide hN
  clear h hsrc hl hN
  rcases Nat.eq_zero_or_pos N with h0 | h0
  · subst h0
    go_enter Try.func36, Try.ntmps36
    go_wp2_with fail
    refine (unhide KC).mono ?_
    rintro e w1 ⟨v1, rfl, ho, b1⟩
    obtain ⟨a1, c1, rfl⟩ := own_slice ho
    have HO := hide (And.intro ho b1)
    clear ho b1 KC HC
    go_wp2_with fail
    go_loopw [12] (fun iv wr => iv = .int .i64 0 ∧ wr = w1) (fun _ _ => 0)
    case atStart => exact ⟨rfl, rfl⟩
    case round =>
      obtain ⟨rfl, rfl⟩ := hrel
      go_wp2_with fail
      go_ret
      have hl0 : l = [] := List.eq_nil_of_length_eq_zero (unhide HN).symm
      have hx0 : xs = [] := List.eq_nil_of_length_eq_zero (by rw [(unhide HR).xl, hl0]; rfl)
      subst hl0 hx0
      exact ⟨_, [], rfl, ⟨rfl, (unhide HO).1, by simp, by simp, by simp⟩, (unhide HO).2⟩
  · go_enter Try.func36, Try.ntmps36
    go_wp2_with fail
    refine (unhide KC).mono ?_
    rintro e w1 ⟨v1, rfl, ho, b1⟩
    obtain ⟨g, c1, rfl, hg, _, _⟩ := own_open ho h0
    have S0 : Hid (CpL kLk w.heap.size w w1 w1 (.slice (some ⟨g, 0, none⟩) N c1) g l xs 0) := CpL.start (unhide HR) (by rw [← unhide HN]; exact ho) rfl
    have HB := hide (And.intro b1 hg)
    clear ho b1 KC hg
    go_wp2_with fail
    go_loopw [12] (fun iv wr => ∃ (i : Nat) (xs' : List Lx), iv = .int .i64 (i : Int) ∧ i ≤ N ∧ Hid (CpL kLk w.heap.size w w1 wr (.slice (some ⟨g, 0, none⟩) N c1) g l xs' i)) (fun iv _ => (N - intOf iv).toNat)
    case atStart => exact ⟨0, xs, rfl, Nat.zero_le _, S0⟩
    case round =>
      clear S0
      obtain ⟨i, xs', rfl, hi, HS⟩ := hrel
      by_cases hlt : i < N
      · obtain ⟨a, cs, ha, hcl, hc1, hrg, hth, KF⟩ := unhide HC w1 wr _ g xs' i (unhide HS) hlt
        have q1 : (i : Int) < (N : Int) := by omega
        have q0 : (0 : Int) ≤ (i : Int) := by omega
        have z1 : (Try.prog.info? 73).map (·.size) = some cs.length := by rw [hcl]; exact infoLkS
        have z2 : (Try.prog.info? 73).map (·.size) = some cs.toArray.size := by rw [List.size_toArray, hcl]; exact infoLkS
        have z3 : lk0.size = cs.toArray.size := by
          have q : cs.toArray.size = 5 := by simpa using hcl
          rw [q]; rfl
        have z4 := all_oneCell_toArray hc1
        have HZ := hide (And.intro hrg (And.intro z1 (And.intro z2 (And.intro z3 z4))))
        have bw0 : Below w.heap.size w wr := Fr.toBase (unhide HB).1 (unhide HS).fr (by intro x hx; rw [List.mem_singleton] at hx; subst hx; exact (World.ownsRow.lt (unhide HS).row x (unhide HS).own).1)
        have HF := hide (And.intro ha (And.intro hth (And.intro bw0 KF)))
        clear hrg z1 z2 z3 z4 hc1 hcl ha hth KF bw0
        go_upto_region 5 with (first | refine wpList_load_mid rfl 73 (.tmp 15) rfl g (i * 5) (by simp [Act.eval]) cs _ (unhide HZ).1 Try.underlying73 rfl (unhide HZ).2.1 ?_ | refine wpList_store_row rfl 73 (.tmp 7) (.tmp 16) rfl wr.heap.size cs.toArray rfl rfl 73 lk0 (heap_alloc_new _ _) (unhide HZ).2.2.1 (unhide HZ).2.2.2.1 (unhide HZ).2.2.2.2 ?_)
        generalize hW : World.setRow (wr.alloc _) wr.heap.size cs.toArray = W2
        have g0 : W2.heap[wr.heap.size]? = some (.cells cs.toArray 73 (0, 0)) := by rw [← hW]; exact setRow_heap _ _ _ _ _ _ (heap_alloc_new _ _)
        have g1 : Below wr.heap.size wr W2 := by rw [← hW]; exact below_setRow' (bwA _ _) (Nat.le_refl _) _
        clear hW
        have KF1 := hide ((unhide HF).2.2.2 W2 (bw_tr (unhide HF).2.2.1 g1))
        have HG := hide (And.intro g0 g1)
        clear g0 g1
        go_wp2_with (refine wpList_load_row rfl 73 (.tmp 7) rfl wr.heap.size rfl 73 cs.toArray (0, 0) _ (unhide HG).1 Try.underlying73 rfl (unhide HZ).2.2.1 ?_)
        refine (unhide KF1).mono ?_
        rintro x w2 ⟨x', cs', rfl, hO, b2⟩
        have th2 : w2.there g (i * 5) cs'.toArray.size := fun j hj => by
          have hj' : j < 5 := by rw [List.size_toArray, (unhide hO).1] at hj; exact hj
          have b9 := bw_tr (unhide HG).2 b2
          have hg9 : g < wr.heap.size := (unhide HS).glt
          have e9 := b9.block g hg9
          obtain ⟨p1, p2⟩ := (unhide HF).2.1 j hj'
          exact ⟨by rw [World.cell?_of_block (w := wr) e9]; exact p1, by rw [World.frozen?_of_block (w := wr) e9]; exact p2⟩
        have y1 : (Try.prog.info? 73).map (·.size) = some cs'.toArray.size := by rw [List.size_toArray, (unhide hO).1]; exact infoLkS
        have y2 := all_oneCell_toArray (unhide hO).2.1
        have HX : Hid (CpL kLk w.heap.size w w1 (w2.setCells g (i * 5) cs'.toArray.toList) (.slice (some ⟨g, 0, none⟩) N c1) g l (xs'.set i x') (i + 1)) := by
          have := ((unhide HS).bw (unhide HG).2).step (unhide HF).1 b2 (unhide hO).2.2.1 (unhide HB).2
          rw [show kLk.C a x' = cs' from (unhide hO).2.2.2] at this
          rw [setCells_pokesQ]
          exact this
        have HY := hide (And.intro th2 (And.intro y1 y2))
        clear th2 y1 y2 hO b2 KF1 HF HZ HG
        go_wp2_with (refine wpList_store_mid rfl 73 (.tmp 22) (.tmp 21) rfl g (i * 5) cs'.toArray (by simp [Act.eval]) rfl (unhide HY).1 (unhide HY).2.1 (unhide HY).2.2 ?_)
        go_roundw
        case rel => exact ⟨i + 1, _, by go_num, by omega, HX⟩
        case measure => simp [intOf]; omega
      · obtain rfl : i = N := by omega
        have HO : Hid (OwL kLk w.heap.size wr (.slice (some ⟨g, 0, none⟩) i c1) l xs' ∧ Below w.heap.size w wr) := by
          have hS := unhide HS
          refine ⟨?_, Fr.toBase (unhide HB).1 hS.fr (by intro x hx; rw [List.mem_singleton] at hx; subst hx; exact (World.ownsRow.lt hS.row x hS.own).1)⟩
          have e := unhide HN
          have hS' : CpL kLk w.heap.size w w1 wr (.slice (some ⟨g, 0, none⟩) i c1) g l xs' l.length := by rw [← e]; exact hS
          exact hS'.done (unhide HB).1.size (unhide HB).2
        clear HS HC
        go_wp2_with fail
        go_ret
        exact ⟨_, xs', rfl, (unhide HO).1, (unhide HO).2⟩
end Go.Proofs.Ytgiicendejgklaa

/- May a link send (isServer, mayBeTold, maySend). mkQuG.py writes it. -/
namespace Go.Proofs.Ytgiicendejgklaa
open Go.RowKit Go.Maps
set_option maxHeartbeats 1000000 in
theorem isSrv_any {w : World} (n : Int) : Calls Try.prog 24 #[.int .i64 n] w fun e w' => e = .returned (.bool (decide (0 ≤ n ∧ n < 4))) ∧ Below w.heap.size w w' := by
  by_cases h1 : 0 ≤ n
  · by_cases h2 : n < 4
    · have hd : decide (0 ≤ n ∧ n < 4) = true := decide_eq_true ⟨h1, h2⟩
      rw [hd]
      go_enter Try.func24, Try.ntmps24
      go_wp2_with fail
      go_ret
      exact ⟨by simp, Below.refl _ _⟩
    · have hd : decide (0 ≤ n ∧ n < 4) = false := decide_eq_false (fun c => h2 c.2)
      rw [hd]
      go_enter Try.func24, Try.ntmps24
      go_wp2_with fail
      go_ret
      exact ⟨by simp, Below.refl _ _⟩
  · have hd : decide (0 ≤ n ∧ n < 4) = false := decide_eq_false (fun c => h1 c.1)
    rw [hd]
    go_enter Try.func24, Try.ntmps24
    go_wp2_with fail
    go_ret
    exact ⟨rfl, Below.refl _ _⟩
def tellP (f : Fd) : Prop := 1 ≤ f.kd ∧ f.kd ≤ 6
set_option maxRecDepth 100000 in
set_option maxHeartbeats 2000000 in
theorem told_any {w : World} (f : Fd) (x : Fx) : Calls Try.prog 23 #[.agg (fdC f x).toArray] w fun e w' => e = .returned (.bool (decide (1 ≤ f.kd ∧ f.kd ≤ 6))) ∧ Below w.heap.size w w' := by
  obtain ⟨w0, hw0⟩ : ∃ w0, w0 = w.alloc (.cells (fdC f x).toArray 43) := ⟨_, rfl⟩
  have kk : w0.heap[w.heap.size]? = some (.cells (fdC f x).toArray 43 (0, 0)) := by rw [hw0]; exact heap_alloc_new _ _
  have HB : Hid (Below w.heap.size w w0) := by rw [hw0]; exact bwA _ _
  have c0 : w0.cell? ⟨w.heap.size, 0, none⟩ = some (.int .u8 f.kd) := blk_c kk rfl
  have HW := hide hw0
  clear hw0 kk
  generalize fdC f x = cs at *
  generalize f.kd = k at *
  by_cases h1 : 1 ≤ k
  · by_cases h2 : k ≤ 6
    · rw [show decide (1 ≤ k ∧ k ≤ 6) = true from decide_eq_true ⟨h1, h2⟩]
      go_enter Try.func23, Try.ntmps23
      go_upto_region 1 with fail
      rw [← unhide HW]
      go_wp2_with fail
      go_ret
      exact ⟨by first | rfl | simp, unhide HB⟩
    · rw [show decide (1 ≤ k ∧ k ≤ 6) = false from decide_eq_false (fun c => h2 c.2)]
      go_enter Try.func23, Try.ntmps23
      go_upto_region 1 with fail
      rw [← unhide HW]
      go_wp2_with fail
      go_ret
      exact ⟨by first | rfl | simp, unhide HB⟩
  · rw [show decide (1 ≤ k ∧ k ≤ 6) = false from decide_eq_false (fun c => h1 c.1)]
    go_enter Try.func23, Try.ntmps23
    go_upto_region 1 with fail
    rw [← unhide HW]
    go_wp2_with fail
    go_ret
    exact ⟨by first | rfl | simp, unhide HB⟩
def SendP (l : Lk) : Prop := l.nx ≤ 1099511627776 ∧ l.q.length ≤ 1024 ∧ (l.q.length : Int) ≤ l.nx ∧ ∀ f ∈ l.q, tellP f
theorem false_iff {p : Prop} {b : Bool} (hb : b = true ↔ p) (h : ¬ p) : b = false := by cases b with | false => rfl | true => exact absurd (hb.1 rfl) h
theorem infoFdS2 : (Try.prog.info? 43).map (·.size) = some 53 := by kernel_rfl
set_option maxRecDepth 100000 in
set_option maxHeartbeats 8000000 in
theorem send_any {w : World} {l : Lk} {x : Lx} (h : LkR w l x) (hq : l.q.length ≤ 1073741824) {b : Bool} (hb : b = true ↔ SendP l) :
    Calls Try.prog 34 #[.agg (lkC l x.qv x.ev).toArray] w fun e w' => e = .returned (.bool b) ∧ Below w.heap.size w w' := by
  have hqs := rdl_slice h.q
  have hes := rdl_slice h.e
  obtain ⟨qv, qx, ev, exx⟩ := x
  simp only at hqs hes ⊢
  obtain ⟨aq, cq, rfl⟩ := hqs
  obtain ⟨ae, ce, rfl⟩ := hes
  obtain ⟨pe, nx, q, exn, ea⟩ := l
  obtain ⟨NQ, hNQ⟩ : ∃ z, z = q.length := ⟨_, rfl⟩
  obtain ⟨NE, hNE⟩ : ∃ z, z = ea.length := ⟨_, rfl⟩
  unfold lkC
  simp only at h hb hNQ hNE ⊢
  rw [← hNQ, ← hNE] at h ⊢
  obtain ⟨w0, hw0⟩ : ∃ w0, w0 = w.alloc (.cells #[.int .i64 pe, .int .i64 nx, .slice aq NQ cq, .int .i64 exn, .slice ae NE ce] 73) := ⟨_, rfl⟩
  have bl : Below w.heap.size w w0 := by rw [hw0]; exact bwA _ _
  have kk : w0.heap[w.heap.size]? = some (.cells #[.int .i64 pe, .int .i64 nx, .slice aq NQ cq, .int .i64 exn, .slice ae NE ce] 73 (0, 0)) := by rw [hw0]; exact heap_alloc_new _ _
  have HC : Hid (∀ W, Below w0.heap.size w0 W → W.cell? ⟨w.heap.size, 0, none⟩ = some (.int .i64 pe) ∧ W.cell? ⟨w.heap.size, 1, none⟩ = some (.int .i64 nx) ∧ W.cell? ⟨w.heap.size, 2, none⟩ = some (.slice aq NQ cq) ∧ W.cell? ⟨w.heap.size, 3, none⟩ = some (.int .i64 exn) ∧ W.cell? ⟨w.heap.size, 4, none⟩ = some (.slice ae NE ce)) := fun W hW => by
    have k1 := kept_b kk (lt_of_blk kk) hW
    exact ⟨blk_c k1 rfl, blk_c k1 rfl, blk_c k1 rfl, blk_c k1 rfl, blk_c k1 rfl⟩
  have hqI : (NQ : Int) ≤ 1073741824 := by simp only at hq; omega
  have HQ : Hid (∀ i, i < NQ → ∃ f cs g o, q[i]? = some f ∧ aq = some ⟨g, o, none⟩ ∧ (∃ y, cs = fdC f y) ∧ Hid (∀ u ∈ cs, u.oneCell' = true) ∧ ∀ W, Below w0.heap.size w0 W → W.rangeAt g (o + i * 53) cs) := fun i hi => by
    obtain ⟨f, hf⟩ : ∃ f, q[i]? = some f := ⟨_, List.getElem?_eq_getElem (by omega)⟩
    obtain ⟨g, o, y, e, _, hR, hc⟩ := h.q.get hf
    exact ⟨f, _, g, o, hf, e, ⟨y, rfl⟩, fd_one hR.1, fun W hW => rng_bw (fun j u hj => hc j u hj) (bw_tr bl hW)⟩
  have HF : Hid (∀ i f, q[i]? = some f → ¬ tellP f → b = false) := fun i f hf hn => false_iff hb (fun hp => hn (hp.2.2.2 f (List.mem_of_getElem? hf)))
  have HG : Hid ((∀ (i : Nat) f, i < NQ → q[i]? = some f → tellP f) → nx ≤ 1099511627776 → NQ ≤ 1024 → (NQ : Int) ≤ nx → b = true) := fun h4 h1 h2 h3 => hb.2 ⟨h1, by simp only; omega, by simp only; omega, fun f hf => by
    obtain ⟨i, hi⟩ := List.mem_iff_getElem?.1 hf
    exact h4 i f (by have hh : i < q.length := (List.getElem?_eq_some_iff.1 hi).1; omega) hi⟩
  have HX : Hid (¬ (nx ≤ 1099511627776 ∧ NQ ≤ 1024 ∧ (NQ : Int) ≤ nx) → b = false) := fun hn => false_iff hb (fun hp => hn ⟨hp.1, by have := hp.2.1; simp only at this; omega, by have := hp.2.2.1; simp only at this; omega⟩)
  obtain ⟨y0, y1, y2, y3, y4⟩ := unhide HC w0 (Below.refl _ _)
  have HW := hide hw0
  have HBL := hide bl
  clear h hq hb bl kk hw0 hNQ hNE y0 y3 y4
  by_cases h1 : 0 ≤ nx
  · by_cases h2 : nx ≤ 1099511627776
    · by_cases h3 : NQ ≤ 1024
      · by_cases h4 : (NQ : Int) ≤ nx
        · have h3I : (NQ : Int) ≤ 1024 := by omega
          clear HX
          go_enter Try.func34, Try.ntmps34
          go_upto_region 1 with fail
          rw [← unhide HW]
          clear HW
          go_wp2_with fail
          clear y1 y2
          go_loopw [30] (fun iv wr => ∃ i : Nat, i ≤ NQ ∧ iv = .int .i64 (i : Int) ∧ Hid (Below w0.heap.size w0 wr ∧ ∀ (j : Nat) f, j < i → q[j]? = some f → tellP f)) (fun iv _ => (NQ - intOf iv).toNat)
          case atStart => exact ⟨0, Nat.zero_le _, rfl, Below.refl _ _, fun j f hj => absurd hj (by omega)⟩
          case round =>
            obtain ⟨i, hi, rfl, HR⟩ := hrel
            by_cases hlt : i < NQ
            · obtain ⟨f, cs, g, o, hf, rfl, hcs, hone, hrg⟩ := unhide HQ i hlt
              have hiI : (i : Int) < (NQ : Int) := by omega
              have h0 : (0 : Int) ≤ (i : Int) := by omega
              obtain ⟨yx, hcs⟩ := hcs
              have KT := fun W => told_any (w := W) f yx
              rw [← hcs] at KT
              have hcl : cs.length = 53 := by rw [hcs]; rfl
              have z1 : (Try.prog.info? 43).map (·.size) = some cs.length := by rw [hcl]; exact infoFdS2
              have z2 : (Try.prog.info? 43).map (·.size) = some cs.toArray.size := by rw [List.size_toArray, hcl]; exact infoFdS2
              have z3 : fd0.size = cs.toArray.size := by
                have q_ : cs.toArray.size = 53 := by simpa using hcl
                rw [q_]; rfl
              have HZ := hide (And.intro (hrg wr (unhide HR).1) (And.intro z1 (And.intro z2 z3)))
              have HO := hone
              have HKT := hide KT
              have HFF := hide hf
              clear hrg z1 z2 z3 hcl hcs KT hf
              go_upto_region 6 with (first | refine wpList_load_mid rfl 43 (.tmp 32) rfl g (o + i * 53) (by simp [Act.eval]) cs _ (unhide HZ).1 Try.underlying43 rfl (unhide HZ).2.1 ?_ | refine wpList_store_row rfl 43 (.tmp 4) (.tmp 33) rfl wr.heap.size cs.toArray rfl rfl 43 fd0 (heap_alloc_new _ _) (unhide HZ).2.2.1 (unhide HZ).2.2.2 (all_oneCell_toArray (unhide HO)) ?_)
              generalize hW : World.setRow (wr.alloc _) wr.heap.size cs.toArray = W2
              have g0 : W2.heap[wr.heap.size]? = some (.cells cs.toArray 43 (0, 0)) := by rw [← hW]; exact setRow_heap _ _ _ _ _ _ (heap_alloc_new _ _)
              have g1 : Below wr.heap.size wr W2 := by rw [← hW]; exact below_setRow' (bwA _ _) (Nat.le_refl _) _
              clear hW
              have KF1 := hide (unhide HKT W2)
              have HG2 := hide (And.intro g0 (bw_tr (unhide HR).1 g1))
              clear g0 g1 HKT
              obtain ⟨tk, htk⟩ : ∃ z, z = decide (1 ≤ f.kd ∧ f.kd ≤ 6) := ⟨_, rfl⟩
              rw [← htk] at KF1
              have HTK := hide htk
              clear htk
              go_wp2_with (refine wpList_load_row rfl 43 (.tmp 4) rfl wr.heap.size rfl 43 cs.toArray (0, 0) _ (unhide HG2).1 Try.underlying43 rfl (unhide HZ).2.2.1 ?_)
              refine (unhide KF1).mono ?_
              rintro e w2 ⟨rfl, b2⟩
              have HB2 := hide (bw_tr (unhide HG2).2 b2)
              clear b2 KF1 HG2 HZ HO
              cases tk with
              | true =>
                have HNX : Hid (Below w0.heap.size w0 w2 ∧ ∀ (j : Nat) f, j < i + 1 → q[j]? = some f → tellP f) := by
                  refine ⟨unhide HB2, fun j f' hj hf' => ?_⟩
                  rcases Nat.lt_or_ge j i with d | d
                  · exact (unhide HR).2 j f' d hf'
                  · obtain rfl : j = i := by omega
                    rw [unhide HFF] at hf'; cases hf'
                    exact (of_decide_eq_true (unhide HTK).symm : 1 ≤ f.kd ∧ f.kd ≤ 6)
                go_wp2_with fail
                go_roundw
                case rel => exact ⟨i + 1, by omega, by go_num, HNX⟩
                case measure => simp only [intOf]; omega
              | false =>
                have hb := unhide HF i f (unhide HFF) (of_decide_eq_false (unhide HTK).symm : ¬ (1 ≤ f.kd ∧ f.kd ≤ 6))
                subst hb
                have HBZ := hide (bw_tr (unhide HBL) (unhide HB2))
                clear HF HG HR
                go_wp2_with fail
                go_ret
                exact ⟨rfl, unhide HBZ⟩
            · obtain rfl : i = NQ := by omega
              have hb := unhide HG (unhide HR).2 h2 h3 h4
              subst hb
              have HBZ := hide (bw_tr (unhide HBL) (unhide HR).1)
              clear HR HF HG
              go_wp2_with fail
              go_ret
              exact ⟨rfl, unhide HBZ⟩
        · have hb := unhide HX (fun c => h4 c.2.2)
          subst hb
          clear HX HG HF HQ HC
          go_enter Try.func34, Try.ntmps34
          go_upto_region 1 with fail
          rw [← unhide HW]
          go_wp2_with fail
          go_ret
          exact ⟨rfl, unhide HBL⟩
      · have h3I : (1024 : Int) < (NQ : Int) := by omega
        have hb := unhide HX (fun c => h3 c.2.1)
        subst hb
        clear HX HG HF HQ HC
        go_enter Try.func34, Try.ntmps34
        go_upto_region 1 with fail
        rw [← unhide HW]
        go_wp2_with fail
        go_ret
        exact ⟨rfl, unhide HBL⟩
    · have hb := unhide HX (fun c => h2 c.1)
      subst hb
      clear HX HG HF HQ HC
      go_enter Try.func34, Try.ntmps34
      go_upto_region 1 with fail
      rw [← unhide HW]
      go_wp2_with fail
      go_ret
      exact ⟨rfl, unhide HBL⟩
  · have hb := unhide HX (fun c => h1 (by have := c.2.2; omega))
    subst hb
    clear HX HG HF HQ HC
    go_enter Try.func34, Try.ntmps34
    go_upto_region 1 with fail
    rw [← unhide HW]
    go_wp2_with fail
    go_ret
    exact ⟨rfl, unhide HBL⟩
end Go.Proofs.Ytgiicendejgklaa
