/- A packet came in (Take). mkQuTa.py writes it. -/
import Derived.Test.YtgiicendejgklaaZ28
import Derived.Test.YtgiicendejgklaaZ26
import Derived.Deep.RegionHeld3
namespace Go.Proofs.Ytgiicendejgklaa
open Go.RowKit Go.Maps
set_option maxRecDepth 100000 in
set_option maxHeartbeats 8000000 in
theorem take_any {w : World} {v : Value} {l : List Lk} {xs : List Lx} (h : RdL kLk w v l xs) (hl : l.length ≤ 1000000) {p : Pt} {y : Fx} (hf : FdR w p.fd y) (hs : SmF p.fd) :
    Calls Try.prog 12 #[v, .agg (ptC p y).toArray] w fun e w' => TakeQ w w' l p e := by
  have hsms := h.sms
  obtain ⟨CS, hCS⟩ : ∃ z, z = ptC p y := ⟨_, rfl⟩
  obtain ⟨FS, hFS⟩ : ∃ z, z = fdC p.fd y := ⟨_, rfl⟩
  have hcl : CS.length = 57 := by rw [hCS]; rfl
  have hfl : FS.length = 53 := by rw [hFS]; rfl
  have hcf : CS = .int .i64 p.fr :: .int .i64 p.tu :: .bool p.ack :: .int .i64 p.sq :: FS := by rw [hCS, hFS]; rfl
  rw [← hCS]
  obtain ⟨w0, hw0⟩ : ∃ w0, w0 = w.alloc (.cells CS.toArray 45) := ⟨_, rfl⟩
  have bl : Below w.heap.size w w0 := by rw [hw0]; exact bwA _ _
  have hw0s : w0.heap.size = w.heap.size + 1 := by rw [hw0]; simp
  have kk : w0.heap[w.heap.size]? = some (.cells CS.toArray 45 (0, 0)) := by rw [hw0]; exact heap_alloc_new _ _
  obtain ⟨r, hr⟩ := ex_bool (okLs l)
  have K1 : Hid (Calls Try.prog 22 #[v] w0 fun e w' => e = .returned (.bool r) ∧ Below w0.heap.size w0 w') := mayBeL_any (h.bw bl) (by omega) hr
  obtain ⟨tk, htk⟩ := ex_bool (TakenP p)
  have K2 : Hid (∀ W, Calls Try.prog 27 #[.agg CS.toArray] W fun e w' => e = .returned (.bool tk) ∧ Below W.heap.size W w') := fun W => by rw [hCS]; exact taken_any p y htk
  have K4 : Hid (∀ W, Below w.heap.size w W → Calls Try.prog 25 #[v, .int .i64 p.fr] W fun e w' => ∃ g k n c, e = .returned (.tuple #[.slice (some ⟨g, 0, none⟩) n c, .pointer (some ⟨g, k * 5, none⟩)]) ∧ ∃ L xs', Hid (Lnk l p.fr k L ∧ OwL kLk W.heap.size w' (.slice (some ⟨g, 0, none⟩) n c) L xs' ∧ n = L.length ∧ Below W.heap.size W w')) := fun W hW => linked_any (h.bw hW) hl p.fr
  have KF : Hid (∀ W, Below w.heap.size w W → Calls Try.prog 26 #[.agg FS.toArray] W fun e w' => ∃ y' : Fx, e = .returned (.agg (fdC p.fd y').toArray) ∧ Hid (OF W.heap.size w' p.fd y') ∧ Below W.heap.size W w') := fun W hW => by
    rw [hFS]
    exact frFeed_any (hf.bw hW) hs
  have HC : Hid (∀ W, Below w0.heap.size w0 W → W.cell? ⟨w.heap.size, 0, none⟩ = some (.int .i64 p.fr) ∧ W.cell? ⟨w.heap.size, 1, none⟩ = some (.int .i64 p.tu) ∧ W.cell? ⟨w.heap.size, 2, none⟩ = some (.bool p.ack) ∧ W.cell? ⟨w.heap.size, 3, none⟩ = some (.int .i64 p.sq) ∧ W.rangeAt w.heap.size 4 FS ∧ W.rangeAt w.heap.size 0 CS) := fun W hW => by
    have k1 := kept_b kk (lt_of_blk kk) hW
    rw [hcf] at k1
    exact ⟨blk_c k1 rfl, blk_c k1 rfl, blk_c k1 rfl, blk_c k1 rfl, blk_rngQ k1 (fun j u hj => by rw [show 4 + j = j + 1 + 1 + 1 + 1 by omega]; simpa using hj), by rw [hcf]; exact blk_rngQ k1 (fun j u hj => by rw [Nat.zero_add]; simpa using hj)⟩
  have HI : Hid ((Try.prog.info? 45).map (·.size) = some CS.length) := by rw [hcl]; exact infoPkS
  have HIF : Hid ((Try.prog.info? 43).map (·.size) = some FS.length) := by rw [hfl]; exact infoFdS3
  have HBL := hide bl
  have HW := hide hw0
  have HR := hide hr
  have HTK := hide htk
  have HSM := hide hsms
  have HSF := hide hs
  have HW0S := hide hw0s
  obtain ⟨a, cap, rfl⟩ := rdl_slice h
  obtain ⟨N, hN⟩ : ∃ N, N = l.length := ⟨_, rfl⟩
  rw [← hN] at K1 K4 ⊢
  clear h hl hf hs hCS hFS hcl hfl hcf bl kk hw0 hr htk hN hsms hw0s
  go_enter Try.func12, Try.ntmps12
  go_upto_region 1 with fail
  rw [← unhide HW]
  clear HW
  go_wp2_with fail
  refine (unhide K1).mono ?_
  rintro e w1 ⟨rfl, b1⟩
  have HB1 := hide b1
  clear K1 b1
  cases r with
  | false =>
    have HF : Hid (¬ (okLs l ∧ TakenP p)) := fun q => by have := (unhide HR).2 q.1; cases this
    have HB := hide (bw_tr (unhide HBL) (unhide HB1))
    clear K2 K4 KF HC HI HIF
    go_wp2_with fail
    (try simp only [Exit.inBlock, Exit.then])
    refine bodyPost_ret (results_tmp4 rfl _ _ _) rfl ?_
    exact ⟨_, _, _, 1, rfl, unhide HB, Or.inl ⟨rfl, Or.inl (unhide HF), rfl, rfl, rfl⟩⟩
  | true =>
    have HRG := hide (unhide HC w1 (unhide HB1)).2.2.2.2.2
    go_wp2_with (refine wpList_load_midG (by first | rfl | simp [Region.wanted, yielded]) 45 (.tmp 3) rfl w.heap.size 0 (by simp [Act.eval]) CS _ (unhide HRG) Try.underlying45 rfl (unhide HI) ?_)
    refine (unhide K2 w1).mono ?_
    rintro e w2 ⟨rfl, b2⟩
    have HB2 := hide (bw_tr (unhide HB1) b2)
    clear K2 b2 HB1 HRG HI
    cases tk with
    | false =>
      have HF : Hid (¬ (okLs l ∧ TakenP p)) := fun q => by have := (unhide HTK).2 q.2; cases this
      have HB := hide (bw_tr (unhide HBL) (unhide HB2))
      clear K4 KF HC HIF
      go_wp2_with fail
      (try simp only [Exit.inBlock, Exit.then])
      refine bodyPost_ret (results_tmp4 rfl _ _ _) rfl ?_
      exact ⟨_, _, _, 1, rfl, unhide HB, Or.inl ⟨rfl, Or.inl (unhide HF), rfl, rfl, rfl⟩⟩
    | true =>
      have HOK : Hid (okLs l ∧ TakenP p) := ⟨(unhide HR).1 (by trivial), (unhide HTK).1 (by trivial)⟩
      have K44 := hide (unhide K4 w2 (bw_tr (unhide HBL) (unhide HB2)))
      obtain ⟨x0, _, _, _, _, _⟩ := unhide HC w2 (unhide HB2)
      clear K4 HR HTK
      go_wp2_with fail
      refine (unhide K44).mono ?_
      rintro e w4 ⟨g, k, n, c, rfl, L, xs', hF⟩
      obtain ⟨hLn, ho, hn, b4⟩ := unhide hF
      obtain ⟨q, hq, hqp⟩ := hLn.at
      have hkL := (List.getElem?_eq_some_iff.1 hq).1
      obtain ⟨x, hx⟩ : ∃ x, xs'[k]? = some x := ⟨_, List.getElem?_eq_getElem (by rw [ho.xl]; exact hkL)⟩
      have hok := hLn.ok (unhide HOK).1 (unhide HOK).2.1
      have hsm := hLn.sm (unhide HSM)
      obtain ⟨LC, hblk, hLC⟩ := lk_block ho
      have HL : Hid (Lnk l p.fr k L ∧ L[k]? = some q ∧ okLs L ∧ (∀ b ∈ L, SmL b)) := ⟨hLn, hq, hok, hsm⟩
      have HO : Hid (OwL kLk w2.heap.size w4 (.slice (some ⟨g, 0, none⟩) n c) L xs' ∧ xs'[k]? = some x ∧ n = L.length ∧ w4.heap[g]? = some (.cells LC 73 (0, 0)) ∧ ∀ (i : Nat) b x j u, L[i]? = some b → xs'[i]? = some x → (lkC b x.qv x.ev)[j]? = some u → LC[i * 5 + j]? = some u) := ⟨ho, hx, hn, hblk, hLC⟩
      have HB4 : Hid (Below w0.heap.size w0 w4) := bw_tr (unhide HB2) b4
      have HBW : Hid (Below w.heap.size w w4) := bw_tr (unhide HBL) (bw_tr (unhide HB2) b4)
      have HSZ : Hid (w0.heap.size ≤ w2.heap.size ∧ w2.heap.size ≤ w4.heap.size) := ⟨(unhide HB2).size, b4.size⟩
      obtain ⟨_, _, c2, c3, _, _⟩ := unhide HC w4 (unhide HB4)
      have c1 : w4.cell? ⟨g, k * 5 + 1, none⟩ = some (.int .i64 q.nx) := blk_c hblk (hLC k q x 1 _ hq hx rfl)
      obtain ⟨nx, hnx⟩ : ∃ z, z = q.nx := ⟨_, rfl⟩
      obtain ⟨sq, hsq⟩ : ∃ z, z = p.sq := ⟨_, rfl⟩
      rw [← hnx] at c1
      rw [← hsq] at c3
      have HNX := hide hnx
      have HSQ := hide hsq
      clear K44 hF hLn ho hn b4 hq hqp hkL hx hok hsm hblk hLC hnx hsq x0
      cases hack : p.ack with
      | true =>
        rw [hack] at c2
        have HAK := hide hack
        clear hack
        have d1 : w4.drew.cell? ⟨g, k * 5 + 1, none⟩ = some (.int .i64 nx) := c1
        have d3 : w4.drew.cell? ⟨w.heap.size, 3, none⟩ = some (.int .i64 sq) := c3
        go_upto_region 5 with fail
        refine wp_region_any (by kernel_rfl) ?_
        change wpAny _ _ _ _ _ _ _ (World.drew _)
        refine wpAny_take (i := 0) (oi := { dst := some 29, op := Op.fieldAddr 45 (Operand.tmp 3) 3, type := 0, pos := "queue.go:53", after := #[], guard := none }) (v := .pointer (some ⟨w.heap.size, 3, none⟩)) rfl (by kernel_rfl) (by kernel_rfl) (by kernel_rfl) (fun _ _ _ h => h) (Or.inl ⟨by rfl, fun w => by go_simp⟩) ?_
        try simp only [Act.put, List.setIfInBounds_toArray, List.set_cons_zero, List.set_cons_succ]
        refine wpAny_take (i := 2) (oi := { dst := some 31, op := Op.move (Operand.tmp 9), type := 79, pos := "queue.go:53", after := #[], guard := none }) (v := .pointer (some ⟨g, k * 5, none⟩)) rfl (by kernel_rfl) (by kernel_rfl) (by kernel_rfl) (fun _ _ _ h => h) (Or.inl ⟨by rfl, fun w => by go_simp⟩) ?_
        try simp only [Act.put, List.setIfInBounds_toArray, List.set_cons_zero, List.set_cons_succ]
        refine wpAny_take (i := 3) (oi := { dst := some 32, op := Op.nilCheck (Operand.tmp 31), type := 0, pos := "queue.go:53", after := #[{ on := 2, ground := Ground.data }], guard := none }) (v := .pointer (some ⟨g, k * 5, none⟩)) rfl (by kernel_rfl) (by kernel_rfl) (by kernel_rfl) (fun _ _ _ h => h) (Or.inl ⟨by rfl, fun w => by go_simp⟩) ?_
        try simp only [Act.put, List.setIfInBounds_toArray, List.set_cons_zero, List.set_cons_succ]
        refine wpAny_take (i := 4) (oi := { dst := some 33, op := Op.fieldAddr 73 (Operand.tmp 32) 1, type := 0, pos := "queue.go:53", after := #[{ on := 3, ground := Ground.data }], guard := none }) (v := .pointer (some ⟨g, k * 5 + 1, none⟩)) rfl (by kernel_rfl) (by kernel_rfl) (by kernel_rfl) (fun _ _ _ h => h) (Or.inl ⟨by rfl, fun w => by go_simp⟩) ?_
        try simp only [Act.put, List.setIfInBounds_toArray, List.set_cons_zero, List.set_cons_succ]
        refine wpAny_ready (rs := [1, 5]) (by kernel_rfl) (by simp) (AllReady.cons (o := { dst := some 30, op := Op.load 3 (Operand.tmp 29), type := 3, pos := "queue.go:53", after := #[{ on := 0, ground := Ground.data }], guard := none }) rfl (fun K hK => ?_) (AllReady.cons (o := { dst := some 34, op := Op.load 3 (Operand.tmp 33), type := 3, pos := "queue.go:53", after := #[{ on := 4, ground := Ground.data }], guard := none }) rfl (fun K hK => ?_) AllReady.nil))
        · go_simp
          refine hK _ _ ?_
          clear hK K
          try simp only [Act.put, List.setIfInBounds_toArray, List.set_cons_zero, List.set_cons_succ]
          refine wpAny_ready (rs := [5]) (by kernel_rfl) (by simp) (AllReady.cons (o := { dst := some 34, op := Op.load 3 (Operand.tmp 33), type := 3, pos := "queue.go:53", after := #[{ on := 4, ground := Ground.data }], guard := none }) rfl (fun K hK => ?_) AllReady.nil)
          go_simp
          refine hK _ _ ?_
          clear hK K
          try simp only [Act.put, List.setIfInBounds_toArray, List.set_cons_zero, List.set_cons_succ]
          refine wpAny_ready (rs := [6]) (by kernel_rfl) (by simp) (AllReady.cons (o := { dst := some 35, op := Op.binOp BinOp.gtr 3 (Operand.tmp 30) (Operand.tmp 34) 3, type := 4, pos := "queue.go:53", after := #[{ on := 1, ground := Ground.data }, { on := 5, ground := Ground.data }], guard := none }) rfl (fun K hK => ?_) AllReady.nil)
          go_simp
          refine hK _ _ ?_
          clear hK K
          try simp only [Act.put, List.setIfInBounds_toArray, List.set_cons_zero, List.set_cons_succ]
          refine wpAny_done (by kernel_rfl) ?_ _
          by_cases hgt : nx < sq
          · have HF : Hid (okLs l ∧ TakenP p ∧ p.ack = true ∧ ∃ k L q, Lnk l p.fr k L ∧ L[k]? = some q ∧ q.nx < p.sq) := ⟨(unhide HOK).1, (unhide HOK).2, unhide HAK, k, L, q, (unhide HL).1, (unhide HL).2.1, by rw [← unhide HNX, ← unhide HSQ]; exact hgt⟩
            clear KF HC HIF HL HO
            go_wp2_with fail
            (try simp only [Exit.inBlock, Exit.then])
            refine bodyPost_ret (results_tmp4 rfl _ _ _) rfl ?_
            exact ⟨_, _, _, 1, rfl, (unhide HBW).drew, Or.inl ⟨rfl, Or.inr (unhide HF), rfl, rfl, rfl⟩⟩
          · have KA : Hid (Calls Try.prog 28 #[.pointer (some ⟨g, k * 5, none⟩), .int .i64 sq] w4.drew fun r w' => r = .returned (.tuple #[]) ∧ Hid (∃ xs2, RdA kLk w.heap.size w' (.slice (some ⟨g, 0, none⟩) n c) (L.set k (ackL q p.sq)) xs2 ∧ Below w.heap.size w w')) := by
              obtain ⟨ho, hx, hn, hblk, hLC⟩ := unhide HO
              obtain ⟨hLn, hq, hok, hsm⟩ := unhide HL
              have bd : Below w4.heap.size w4 w4.drew := (Below.refl _ _).drew
              have hoD : OwL kLk w2.heap.size w4.drew (.slice (some ⟨g, 0, none⟩) n c) L xs' := ho.bw bd
              have hck : OL w2.heap.size w4.drew q x := hoD.el k q _ hq hx
              have hgo : (Value.slice (some ⟨g, 0, none⟩) n c).ownBlock = some g := rfl
              have hsd := (hok k q hq).1.2.1
              have hsq0 : 0 ≤ p.sq := (unhide HOK).2.2.2.1
              refine Calls.mono (ack_any (w := w4.drew) (B := w2.heap.size) (lb := g) (lo := k * 5) (LC := LC) hblk (fun j u hj => hLC k q x j u hq hx hj) hck (hsm q (List.mem_of_getElem? hq)) hsd.2.1 hsd.2.2.1 hsd.1 (by rw [unhide HSQ]; exact hsq0) (by have := unhide HNX; omega) (fun z hz e => hoD.self g k x hgo hx (by rw [← e]; exact hz)) rfl) ?_
              rintro e w5 ⟨rfl, qv, HA⟩
              obtain ⟨a1, a2, a3⟩ := unhide HA
              have a4 := hoD.acked hn hsm hq hx hLC a1 a2 a3
              rw [unhide HSQ] at a4
              refine ⟨rfl, _, a4.mono (by have s1 := (unhide HBL).size; have s2 := unhide HSZ; omega), fr_bel (unhide HBW).drew a3 (fun z hz => ?_) (unhide HBW).size⟩
              have s1 := (unhide HBL).size
              have s2 := unhide HSZ
              simp only [List.mem_cons, Option.mem_toList] at hz
              rcases hz with rfl | hz
              · have := (World.ownsRow.lt hoD.row z hgo).1; omega
              · have := (World.ownsRow.lt hck.q.row z hz).1; omega
            have HLE := hide hgt
            clear KF HC HIF HO
            go_wp2_with fail
            refine (unhide KA).mono ?_
            rintro e w5 ⟨rfl, HA⟩
            clear KA
            go_wp2_with fail
            (try simp only [Exit.inBlock, Exit.then])
            refine bodyPost_ret (results_tmp4 rfl _ _ _) rfl ?_
            obtain ⟨xs2, a1, a2⟩ := unhide HA
            exact ⟨_, _, _, 0, rfl, a2, Or.inr ⟨rfl, (unhide HOK).1, (unhide HOK).2, k, L, q, (unhide HL).1, (unhide HL).2.1, Or.inl ⟨unhide HAK, by rw [← unhide HNX, ← unhide HSQ]; have := unhide HLE; omega, rfl, rfl, xs2, a1⟩⟩⟩
        · go_simp
          refine hK _ _ ?_
          clear hK K
          try simp only [Act.put, List.setIfInBounds_toArray, List.set_cons_zero, List.set_cons_succ]
          refine wpAny_ready (rs := [1]) (by kernel_rfl) (by simp) (AllReady.cons (o := { dst := some 30, op := Op.load 3 (Operand.tmp 29), type := 3, pos := "queue.go:53", after := #[{ on := 0, ground := Ground.data }], guard := none }) rfl (fun K hK => ?_) AllReady.nil)
          go_simp
          refine hK _ _ ?_
          clear hK K
          try simp only [Act.put, List.setIfInBounds_toArray, List.set_cons_zero, List.set_cons_succ]
          refine wpAny_ready (rs := [6]) (by kernel_rfl) (by simp) (AllReady.cons (o := { dst := some 35, op := Op.binOp BinOp.gtr 3 (Operand.tmp 30) (Operand.tmp 34) 3, type := 4, pos := "queue.go:53", after := #[{ on := 1, ground := Ground.data }, { on := 5, ground := Ground.data }], guard := none }) rfl (fun K hK => ?_) AllReady.nil)
          go_simp
          refine hK _ _ ?_
          clear hK K
          try simp only [Act.put, List.setIfInBounds_toArray, List.set_cons_zero, List.set_cons_succ]
          refine wpAny_done (by kernel_rfl) ?_ _
          by_cases hgt : nx < sq
          · have HF : Hid (okLs l ∧ TakenP p ∧ p.ack = true ∧ ∃ k L q, Lnk l p.fr k L ∧ L[k]? = some q ∧ q.nx < p.sq) := ⟨(unhide HOK).1, (unhide HOK).2, unhide HAK, k, L, q, (unhide HL).1, (unhide HL).2.1, by rw [← unhide HNX, ← unhide HSQ]; exact hgt⟩
            clear KF HC HIF HL HO
            go_wp2_with fail
            (try simp only [Exit.inBlock, Exit.then])
            refine bodyPost_ret (results_tmp4 rfl _ _ _) rfl ?_
            exact ⟨_, _, _, 1, rfl, (unhide HBW).drew, Or.inl ⟨rfl, Or.inr (unhide HF), rfl, rfl, rfl⟩⟩
          · have KA : Hid (Calls Try.prog 28 #[.pointer (some ⟨g, k * 5, none⟩), .int .i64 sq] w4.drew fun r w' => r = .returned (.tuple #[]) ∧ Hid (∃ xs2, RdA kLk w.heap.size w' (.slice (some ⟨g, 0, none⟩) n c) (L.set k (ackL q p.sq)) xs2 ∧ Below w.heap.size w w')) := by
              obtain ⟨ho, hx, hn, hblk, hLC⟩ := unhide HO
              obtain ⟨hLn, hq, hok, hsm⟩ := unhide HL
              have bd : Below w4.heap.size w4 w4.drew := (Below.refl _ _).drew
              have hoD : OwL kLk w2.heap.size w4.drew (.slice (some ⟨g, 0, none⟩) n c) L xs' := ho.bw bd
              have hck : OL w2.heap.size w4.drew q x := hoD.el k q _ hq hx
              have hgo : (Value.slice (some ⟨g, 0, none⟩) n c).ownBlock = some g := rfl
              have hsd := (hok k q hq).1.2.1
              have hsq0 : 0 ≤ p.sq := (unhide HOK).2.2.2.1
              refine Calls.mono (ack_any (w := w4.drew) (B := w2.heap.size) (lb := g) (lo := k * 5) (LC := LC) hblk (fun j u hj => hLC k q x j u hq hx hj) hck (hsm q (List.mem_of_getElem? hq)) hsd.2.1 hsd.2.2.1 hsd.1 (by rw [unhide HSQ]; exact hsq0) (by have := unhide HNX; omega) (fun z hz e => hoD.self g k x hgo hx (by rw [← e]; exact hz)) rfl) ?_
              rintro e w5 ⟨rfl, qv, HA⟩
              obtain ⟨a1, a2, a3⟩ := unhide HA
              have a4 := hoD.acked hn hsm hq hx hLC a1 a2 a3
              rw [unhide HSQ] at a4
              refine ⟨rfl, _, a4.mono (by have s1 := (unhide HBL).size; have s2 := unhide HSZ; omega), fr_bel (unhide HBW).drew a3 (fun z hz => ?_) (unhide HBW).size⟩
              have s1 := (unhide HBL).size
              have s2 := unhide HSZ
              simp only [List.mem_cons, Option.mem_toList] at hz
              rcases hz with rfl | hz
              · have := (World.ownsRow.lt hoD.row z hgo).1; omega
              · have := (World.ownsRow.lt hck.q.row z hz).1; omega
            have HLE := hide hgt
            clear KF HC HIF HO
            go_wp2_with fail
            refine (unhide KA).mono ?_
            rintro e w5 ⟨rfl, HA⟩
            clear KA
            go_wp2_with fail
            (try simp only [Exit.inBlock, Exit.then])
            refine bodyPost_ret (results_tmp4 rfl _ _ _) rfl ?_
            obtain ⟨xs2, a1, a2⟩ := unhide HA
            exact ⟨_, _, _, 0, rfl, a2, Or.inr ⟨rfl, (unhide HOK).1, (unhide HOK).2, k, L, q, (unhide HL).1, (unhide HL).2.1, Or.inl ⟨unhide HAK, by rw [← unhide HNX, ← unhide HSQ]; have := unhide HLE; omega, rfl, rfl, xs2, a1⟩⟩⟩
      | false =>
        rw [hack] at c2
        have HAK := hide hack
        clear hack c1
        have d3 : w4.drew.cell? ⟨w.heap.size, 3, none⟩ = some (.int .i64 sq) := c3
        have RNG := hide (unhide HC w4.drew (unhide HB4).drew).2.2.2.2.1
        have KFF := hide (unhide KF w4.drew (unhide HBW).drew)
        have hw4 : w.heap.size < w4.heap.size := lt_of_cell c3
        have KR : Hid (∀ zz y', OF w4.drew.heap.size zz p.fd y' → Below w4.drew.heap.size w4.drew zz → Calls Try.prog 29 #[.pointer (some ⟨g, k * 5, none⟩), .agg (erC ⟨sq, p.fd⟩ y').toArray] zz fun r w6 => ∃ a' n' c', r = .returned (.slice a' n' c') ∧ ∃ ex', Hid ((∃ q' T tx xs2, TurnP q ⟨p.sq, p.fd⟩ q' T ∧ q'.ex = ex' ∧ RdA kLk w.heap.size w6 (.slice (some ⟨g, 0, none⟩) n c) (L.set k q') xs2 ∧ RdA kFd w.heap.size w6 (.slice a' n' c') T tx) ∧ w6.cell? ⟨g, k * 5 + 3, none⟩ = some (.int .i64 ex') ∧ Below w0.heap.size w0 w6 ∧ Below w.heap.size w w6)) := fun zz y' hO hz => by
          obtain ⟨ho, hx, hn, hblk, hLC⟩ := unhide HO
          obtain ⟨hLn, hq, hok, hsm⟩ := unhide HL
          have hgo : (Value.slice (some ⟨g, 0, none⟩) n c).ownBlock = some g := rfl
          have hoD : OwL kLk w2.heap.size w4.drew (.slice (some ⟨g, 0, none⟩) n c) L xs' := ho.bw (Below.refl _ _).drew
          have hoZ : OwL kLk w2.heap.size zz (.slice (some ⟨g, 0, none⟩) n c) L xs' := hoD.bw hz
          have hgl := World.ownsRow.lt hoD.row g hgo
          have hbz : zz.heap[g]? = some (.cells LC 73 (0, 0)) := by rw [hz.block g hgl.2]; exact hblk
          have hck : OL w2.heap.size zz q x := hoZ.el k q _ hq hx
          have hex := (hok k q hq).1.2.2
          obtain ⟨hr1, hr2⟩ := exp_rise q.ea (fun i e he => (hex.2.2.2 i e he).1)
          have hr3 : ∀ a ∈ q.ea, a.sq < 1099511627776 := fun a ha => by
            obtain ⟨i, hi, e⟩ := List.getElem_of_mem ha
            exact (hex.2.2.2 i a (by rw [← e]; exact List.getElem?_eq_getElem hi)).2.1
          have htp := (unhide HOK).2.2.2
          have hs1 : p.sq < 1099511627776 := by
            rcases htp.2 with ⟨q1, _⟩ | ⟨_, q1, _⟩
            · rw [unhide HAK] at q1; cases q1
            · exact q1
          have hqm := hsm q (List.mem_of_getElem? hq)
          have hBz : Below w0.heap.size w0 zz := bw_tr (unhide HB4).drew hz
          have hBw : Below w.heap.size w zz := bw_tr (unhide HBW).drew hz
          have hsz := unhide HSZ
          have hsb := (unhide HBL).size
          rw [unhide HSQ]
          by_cases hwt : WantP q p.sq
          · refine Calls.mono (recvGo_any (w := zz) (B := w2.heap.size) (lb := g) (lo := k * 5) (l := q) (x := x) (e := ⟨p.sq, p.fd⟩) (y := y') hbz (fun j u hj => hLC k q x j u hq hx hj) hck hqm (OF.mono hO (by show w2.heap.size ≤ w4.heap.size; omega)) (unhide HSF) hex.2.2.1 hex.1 hex.2.1 htp.1 hs1 hr1 hr2 hr3 (fun z hz e => hoZ.self g k x hgo hx (by rw [← e]; exact hz)) (fun z hz e => by have := (OF.lt hO z hz).1; have := hgl.2; omega) (by have := hz.size; show w2.heap.size ≤ zz.heap.size; have h9 : w4.drew.heap.size = w4.heap.size := rfl; omega) hwt) ?_
            rintro r w6 ⟨tv, ev, kk, tx, kx, rfl, HQ⟩
            obtain ⟨k1, k2, HQ2⟩ := unhide HQ
            have hlen : (runE (fun a : Er => a.sq) q.ex (insAt q.ea kk ⟨p.sq, p.fd⟩)).2.2.length ≤ 1073741824 := by
              have h1 := runE_len (fun a : Er => a.sq) (insAt q.ea kk ⟨p.sq, p.fd⟩) q.ex
              rw [insAt_len] at h1
              have := hex.2.2.1
              omega
            obtain ⟨m1, m2⟩ := hoZ.recvd hn hsm hq hx hLC HQ2 hlen
            obtain ⟨a', c', htv⟩ := rdl_slice HQ2.td.rd
            have hfr : ∀ z ∈ [g], w0.heap.size ≤ z ∧ w.heap.size ≤ z := fun z hz => by
              simp only [List.mem_cons, List.not_mem_nil, or_false] at hz
              have := hgl.1
              omega
            refine ⟨a', _, c', by rw [htv], _, ⟨_, _, tx, _, Or.inr ⟨hwt, kk, k1, k2, rfl, rfl⟩, rfl, m1.mono (by omega), by rw [← htv]; exact HQ2.td.mono (by omega)⟩, m2, fr_bel hBz HQ2.fr (fun z hz => (hfr z hz).1) (by have := hBz.size; omega), fr_bel hBw HQ2.fr (fun z hz => (hfr z hz).2) (by have := hBw.size; omega)⟩
          · refine Calls.mono (recvNo_any (w := zz) (lb := g) (lo := k * 5) (l := q) (x := x) (e := ⟨p.sq, p.fd⟩) (y := y') (fun j u hj => blk_c hbz (hLC k q x j u hq hx hj)) (OL.rd hck hqm) hex.2.2.1 hex.1 hex.2.1 htp.1 hs1 hwt) ?_
            rintro r w6 ⟨rfl, b6⟩
            have l3 : w6.cell? ⟨g, k * 5 + 3, none⟩ = some (.int .i64 q.ex) := by
              have l0 := blk_c hbz (hLC k q x 3 _ hq hx rfl)
              rw [b6.cell (lt_of_cell l0)]; exact l0
            refine ⟨_, _, _, rfl, q.ex, ⟨q, [], [], xs', Or.inl ⟨hwt, rfl, rfl⟩, rfl, ?_, fun w7 _ => rdl_nil kFd w7⟩, l3, bw_tr hBz b6, bw_tr hBw b6⟩
            rw [set_sameQ hq]
            exact ((OwL.lka hoZ hsm).mono (by omega)).abv (Abv.of b6)
        have HOO := hide (unhide HO).2.2.1
        clear KF HO HB4 HBW c3
        go_upto_region 9 with fail
        refine wp_region_any (by kernel_rfl) ?_
        change wpAny _ _ _ _ _ _ _ (World.drew _)
        refine wpAny_take (i := 0) (oi := { dst := some 41, op := Op.move (Operand.tmp 9), type := 79, pos := "queue.go:59", after := #[], guard := none }) (v := .pointer (some ⟨g, k * 5, none⟩)) rfl (by kernel_rfl) (by kernel_rfl) (by kernel_rfl) (fun _ _ _ h => h) (Or.inl ⟨by rfl, fun w => by go_simp⟩) ?_
        try simp only [Act.put, List.setIfInBounds_toArray, List.set_cons_zero, List.set_cons_succ]
        refine wpAny_take (i := 1) (oi := { dst := some 42, op := Op.fieldAddr 45 (Operand.tmp 3) 3, type := 0, pos := "queue.go:59", after := #[], guard := none }) (v := .pointer (some ⟨w.heap.size, 3, none⟩)) rfl (by kernel_rfl) (by kernel_rfl) (by kernel_rfl) (fun _ _ _ h => h) (Or.inl ⟨by rfl, fun w => by go_simp⟩) ?_
        try simp only [Act.put, List.setIfInBounds_toArray, List.set_cons_zero, List.set_cons_succ]
        refine wpAny_take (i := 3) (oi := { dst := some 44, op := Op.fieldAddr 45 (Operand.tmp 3) 4, type := 0, pos := "queue.go:59", after := #[], guard := none }) (v := .pointer (some ⟨w.heap.size, 4, none⟩)) rfl (by kernel_rfl) (by kernel_rfl) (by kernel_rfl) (fun _ _ _ h => h) (Or.inl ⟨by rfl, fun w => by go_simp⟩) ?_
        try simp only [Act.put, List.setIfInBounds_toArray, List.set_cons_zero, List.set_cons_succ]
        refine wpAny_ready (rs := [2, 4]) (by kernel_rfl) (by simp) (AllReady.cons (o := { dst := some 43, op := Op.load 3 (Operand.tmp 42), type := 3, pos := "queue.go:59", after := #[{ on := 1, ground := Ground.data }], guard := none }) rfl (fun K hK => ?_) (AllReady.cons (o := { dst := some 45, op := Op.load 43 (Operand.tmp 44), type := 43, pos := "queue.go:59", after := #[{ on := 3, ground := Ground.data }], guard := none }) rfl (fun K hK => ?_) AllReady.nil))
        · go_simp
          refine hK _ _ ?_
          clear hK K
          try simp only [Act.put, List.setIfInBounds_toArray, List.set_cons_zero, List.set_cons_succ]
          refine wpAny_ready (rs := [4]) (by kernel_rfl) (by simp) (AllReady.cons (o := { dst := some 45, op := Op.load 43 (Operand.tmp 44), type := 43, pos := "queue.go:59", after := #[{ on := 3, ground := Ground.data }], guard := none }) rfl (fun K hK => ?_) AllReady.nil)
          refine step_loadQ rfl 43 (.tmp 44) rfl w.heap.size 4 (by first | rfl | simp [Act.eval, Act.put]) FS _ (unhide RNG) Try.underlying43 rfl (unhide HIF) ?_
          refine hK _ _ ?_
          clear hK K
          try simp only [Act.put, List.setIfInBounds_toArray, List.set_cons_zero, List.set_cons_succ]
          refine wpAny_ready (rs := [5]) (by kernel_rfl) (by simp) (AllReady.cons (o := { dst := some 46, op := Op.call { callee := Callee.value (Operand.func 26), args := #[Operand.tmp 45], argTypes := #[43] }, type := 43, pos := "queue.go:59", after := #[{ on := 4, ground := Ground.data }], guard := none }) rfl (fun K hK => ?_) AllReady.nil)
          go_simp
          refine (unhide KFF).mono ?_
          rintro e_ zz ⟨y', rfl, hO, b3⟩
          have d4 : zz.cell? ⟨w.heap.size, 3, none⟩ = some (.int .i64 sq) := (by rw [b3.cell hw4]; exact d3)
          have HX := hide (And.intro (unhide hO) b3)
          obtain ⟨FY, hFY⟩ : ∃ z, z = fdC p.fd y' := ⟨_, rfl⟩
          rw [← hFY]
          have HFY := hide hFY
          clear hO b3 hFY
          go_wp2_with fail
          try simp only [Act.put, List.setIfInBounds_toArray, List.set_cons_zero, List.set_cons_succ]
          refine wpAny_ready (rs := [6]) (by kernel_rfl) (by simp) (AllReady.cons (o := { dst := some 47, op := Op.build 87 #[(0, Operand.tmp 43), (1, Operand.tmp 46)], type := 87, pos := "queue.go:59", after := #[{ on := 2, ground := Ground.data }, { on := 5, ground := Ground.data }], guard := none }) rfl (fun K hK => ?_) AllReady.nil)
          refine step_buildS rfl 87 _ rfl (erC ⟨sq, p.fd⟩ y').toArray (by have h_ := built_early sq p.fd y'; rw [← unhide HFY] at h_; simpa [Act.eval, Act.put] using h_) ?_
          obtain ⟨EY, hEY⟩ : ∃ z, z = (erC ⟨sq, p.fd⟩ y').toArray := ⟨_, rfl⟩
          rw [← hEY]
          have KRR := hide (unhide KR zz y' (unhide HX).1 (unhide HX).2)
          rw [← hEY] at KRR
          clear hEY HFY
          refine hK _ _ ?_
          clear hK K
          try simp only [Act.put, List.setIfInBounds_toArray, List.set_cons_zero, List.set_cons_succ]
          refine wpAny_ready (rs := [7]) (by kernel_rfl) (by simp) (AllReady.cons (o := { dst := some 48, op := Op.call { callee := Callee.value (Operand.func 29), args := #[Operand.tmp 41, Operand.tmp 47], argTypes := #[79, 87] }, type := 52, pos := "queue.go:59", after := #[{ on := 0, ground := Ground.data }, { on := 6, ground := Ground.data }, { on := 5, ground := Ground.chain }], guard := none }) rfl (fun K hK => ?_) AllReady.nil)
          go_simp
          refine (unhide KRR).mono ?_
          rintro e_ w6 ⟨a', n', c', rfl, ex', HQ⟩
          clear KRR
          go_wp2_with fail
          try simp only [Act.put, List.setIfInBounds_toArray, List.set_cons_zero, List.set_cons_succ]
          refine wpAny_ready (rs := [8]) (by kernel_rfl) (by simp) (AllReady.cons (o := { dst := some 10, op := Op.assign (Operand.tmp 48), type := 52, pos := "queue.go:59", after := #[{ on := 7, ground := Ground.data }, { on := 7, ground := Ground.chain }, { on := 0, ground := Ground.phase }, { on := 1, ground := Ground.phase }, { on := 2, ground := Ground.phase }, { on := 3, ground := Ground.phase }, { on := 4, ground := Ground.phase }, { on := 5, ground := Ground.phase }, { on := 6, ground := Ground.phase }, { on := 7, ground := Ground.phase }], guard := none }) rfl (fun K hK => ?_) AllReady.nil)
          go_simp
          refine hK _ _ ?_
          clear hK K
          try simp only [Act.put, List.setIfInBounds_toArray, List.set_cons_zero, List.set_cons_succ]
          refine wpAny_done (by kernel_rfl) ?_ _
          clear KR HX RNG HIF d3 d4 KFF
          obtain ⟨HQ1, e3, HB6, HBW6⟩ := unhide HQ
          have HQQ := hide HQ1
          have HBW6 := hide HBW6
          obtain ⟨f0, f1, _, _, _, _⟩ := unhide HC w6 HB6
          obtain ⟨fr, hfr⟩ : ∃ z, z = p.fr := ⟨_, rfl⟩
          obtain ⟨tu, htu⟩ : ∃ z, z = p.tu := ⟨_, rfl⟩
          rw [← hfr] at f0
          rw [← htu] at f1
          have HNM := hide (And.intro hfr htu)
          obtain ⟨W, hW⟩ : ∃ W, W = w6.drew := ⟨_, rfl⟩
          have g0 : W.cell? ⟨w.heap.size, 0, none⟩ = some (.int .i64 fr) := (by rw [hW]; exact f0)
          have g1 : W.cell? ⟨w.heap.size, 1, none⟩ = some (.int .i64 tu) := (by rw [hW]; exact f1)
          have g3 : W.cell? ⟨g, k * 5 + 3, none⟩ = some (.int .i64 ex') := (by rw [hW]; exact e3)
          have y0 : ∀ o, (W.alloc o).cell? ⟨w.heap.size, 0, none⟩ = some (.int .i64 fr) := fun o => (by rw [(bwA W o).cell (lt_of_cell g0)]; exact g0)
          have y1 : ∀ o, (W.alloc o).cell? ⟨w.heap.size, 1, none⟩ = some (.int .i64 tu) := fun o => (by rw [(bwA W o).cell (lt_of_cell g1)]; exact g1)
          have y3 : ∀ o, (W.alloc o).cell? ⟨g, k * 5 + 3, none⟩ = some (.int .i64 ex') := fun o => (by rw [(bwA W o).cell (lt_of_cell g3)]; exact g3)
          obtain ⟨PS, hPS⟩ : ∃ PS, PS = ptC ⟨tu, fr, true, ex', fdK 0 0⟩ fx00 := ⟨_, rfl⟩
          have hPl : PS.length = 57 := (by rw [hPS]; rfl)
          have HB1 : Hid (Try.prog.built 45 [(0, .int .i64 tu), (1, .int .i64 fr), (2, .bool true), (3, .int .i64 ex')] = some PS.toArray) := (by rw [hPS]; exact built_back tu fr ex')
          have H1C : Hid (∀ u ∈ PS, u.oneCell' = true) := (by rw [hPS]; exact pt_one (p := ⟨tu, fr, true, ex', fdK 0 0⟩) (fdK_r W 0 0))
          have HTH : Hid (∀ cs : Array Value, cs.size = 57 → (W.alloc (.cells cs 45)).there W.heap.size 0 PS.toArray.size) := fun cs hc => new_there W cs (by rw [hc, List.size_toArray, hPl])
          have S0 : W.cell? ⟨w.heap.size, 0, none⟩ = some (.int .i64 fr) ∧ W.cell? ⟨w.heap.size, 1, none⟩ = some (.int .i64 tu) ∧ W.cell? ⟨g, k * 5 + 3, none⟩ = some (.int .i64 ex') := ⟨g0, g1, g3⟩
          have S1 : ∀ o, (W.alloc o).cell? ⟨w.heap.size, 0, none⟩ = some (.int .i64 fr) ∧ (W.alloc o).cell? ⟨w.heap.size, 1, none⟩ = some (.int .i64 tu) ∧ (W.alloc o).cell? ⟨g, k * 5 + 3, none⟩ = some (.int .i64 ex') := fun o => ⟨y0 o, y1 o, y3 o⟩
          have HS2 : Hid (∀ cs : Array Value, cs.size = 57 → ((W.alloc (.cells cs 45)).setCells W.heap.size 0 PS.toArray.toList).cell? ⟨w.heap.size, 0, none⟩ = some (.int .i64 fr) ∧ ((W.alloc (.cells cs 45)).setCells W.heap.size 0 PS.toArray.toList).cell? ⟨w.heap.size, 1, none⟩ = some (.int .i64 tu) ∧ ((W.alloc (.cells cs 45)).setCells W.heap.size 0 PS.toArray.toList).cell? ⟨g, k * 5 + 3, none⟩ = some (.int .i64 ex')) := fun cs hc => (by
            have b := (new_put W cs PS (t := 45) (by rw [hc, hPl]) _ rfl).2
            exact ⟨by rw [b.cell (lt_of_cell g0)]; exact g0, by rw [b.cell (lt_of_cell g1)]; exact g1, by rw [b.cell (lt_of_cell g3)]; exact g3⟩)
          have HEND : Hid (∀ cs : Array Value, cs.size = 57 → ∀ V, (W.alloc (.cells cs 45)).setCells W.heap.size 0 PS.toArray.toList = V → V.rangeAt W.heap.size 0 PS ∧ Below W.heap.size W V) := fun cs hc V hV => new_put W cs PS (by rw [hc, hPl]) V hV
          obtain ⟨j0, hj, hy0, hy1, _⟩ := info_parts infoKPacket
          have HJ := hide (And.intro hj (And.intro hy0 (And.intro hy1 hPl)))
          have HPS := hide hPS
          have HWD := hide hW
          clear hj hy0 hy1 hPl hPS HQ HQ1 e3 f0 f1 hfr htu hW c2 HC HB6
          go_upto_region 10 with fail
          refine wp_region_held_drew (S := fun w' : World => (w').cell? ⟨w.heap.size, 0, none⟩ = some (.int .i64 fr) ∧ (w').cell? ⟨w.heap.size, 1, none⟩ = some (.int .i64 tu) ∧ (w').cell? ⟨g, k * 5 + 3, none⟩ = some (.int .i64 ex')) (by kernel_rfl) (by rw [← unhide HWD]; exact S0) (fun hHeld => ?_)
          revert hHeld
          rw [← unhide HWD]
          intro hHeld
          refine wpAnyH_take (i := 0) (oi := { dst := some 49, op := Op.fieldAddr 45 (Operand.tmp 3) 1, type := 0, pos := "queue.go:60", after := #[], guard := none }) (v := ?v0r1) rfl (by kernel_rfl) (by kernel_rfl) (by kernel_rfl) (fun _ _ _ h => h) (Or.inl ⟨by rfl, ?hy0r1⟩) (by exact hHeld) ?_
          case hy0r1 => (intro w hSw; (try dsimp only at hSw); go_simp; try (with_reducible rfl))
          try simp only [Act.put, List.setIfInBounds_toArray, List.set_cons_zero, List.set_cons_succ]
          refine wpAnyH_take (i := 1) (oi := { dst := some 50, op := Op.load 3 (Operand.tmp 49), type := 3, pos := "queue.go:60", after := #[{ on := 0, ground := Ground.data }], guard := none }) (v := ?v1r1) rfl (by kernel_rfl) (by kernel_rfl) (by kernel_rfl) (fun _ _ _ h => h) (Or.inl ⟨by rfl, ?hy1r1⟩) (by exact hHeld) ?_
          case hy1r1 => (intro w hSw; (try dsimp only at hSw); go_simp; try (with_reducible rfl))
          try simp only [Act.put, List.setIfInBounds_toArray, List.set_cons_zero, List.set_cons_succ]
          refine wpAnyH_take (i := 2) (oi := { dst := some 51, op := Op.fieldAddr 45 (Operand.tmp 3) 0, type := 0, pos := "queue.go:60", after := #[], guard := none }) (v := ?v2r1) rfl (by kernel_rfl) (by kernel_rfl) (by kernel_rfl) (fun _ _ _ h => h) (Or.inl ⟨by rfl, ?hy2r1⟩) (by exact hHeld) ?_
          case hy2r1 => (intro w hSw; (try dsimp only at hSw); go_simp; try (with_reducible rfl))
          try simp only [Act.put, List.setIfInBounds_toArray, List.set_cons_zero, List.set_cons_succ]
          refine wpAnyH_take (i := 3) (oi := { dst := some 52, op := Op.load 3 (Operand.tmp 51), type := 3, pos := "queue.go:60", after := #[{ on := 2, ground := Ground.data }], guard := none }) (v := ?v3r1) rfl (by kernel_rfl) (by kernel_rfl) (by kernel_rfl) (fun _ _ _ h => h) (Or.inl ⟨by rfl, ?hy3r1⟩) (by exact hHeld) ?_
          case hy3r1 => (intro w hSw; (try dsimp only at hSw); go_simp; try (with_reducible rfl))
          try simp only [Act.put, List.setIfInBounds_toArray, List.set_cons_zero, List.set_cons_succ]
          refine wpAnyH_take (i := 4) (oi := { dst := some 53, op := Op.move (Operand.tmp 9), type := 79, pos := "queue.go:60", after := #[], guard := none }) (v := ?v4r1) rfl (by kernel_rfl) (by kernel_rfl) (by kernel_rfl) (fun _ _ _ h => h) (Or.inl ⟨by rfl, ?hy4r1⟩) (by exact hHeld) ?_
          case hy4r1 => (intro w hSw; (try dsimp only at hSw); go_simp; try (with_reducible rfl))
          try simp only [Act.put, List.setIfInBounds_toArray, List.set_cons_zero, List.set_cons_succ]
          refine wpAnyH_take (i := 5) (oi := { dst := some 54, op := Op.nilCheck (Operand.tmp 53), type := 0, pos := "queue.go:60", after := #[{ on := 4, ground := Ground.data }], guard := none }) (v := ?v5r1) rfl (by kernel_rfl) (by kernel_rfl) (by kernel_rfl) (fun _ _ _ h => h) (Or.inl ⟨by rfl, ?hy5r1⟩) (by exact hHeld) ?_
          case hy5r1 => (intro w hSw; (try dsimp only at hSw); go_simp; try (with_reducible rfl))
          try simp only [Act.put, List.setIfInBounds_toArray, List.set_cons_zero, List.set_cons_succ]
          refine wpAnyH_take (i := 6) (oi := { dst := some 55, op := Op.fieldAddr 73 (Operand.tmp 54) 3, type := 0, pos := "queue.go:60", after := #[{ on := 5, ground := Ground.data }], guard := none }) (v := ?v6r1) rfl (by kernel_rfl) (by kernel_rfl) (by kernel_rfl) (fun _ _ _ h => h) (Or.inl ⟨by rfl, ?hy6r1⟩) (by exact hHeld) ?_
          case hy6r1 => (intro w hSw; (try dsimp only at hSw); go_simp; try (with_reducible rfl))
          try simp only [Act.put, List.setIfInBounds_toArray, List.set_cons_zero, List.set_cons_succ]
          refine wpAnyH_take (i := 7) (oi := { dst := some 56, op := Op.load 3 (Operand.tmp 55), type := 3, pos := "queue.go:60", after := #[{ on := 6, ground := Ground.data }], guard := none }) (v := ?v7r1) rfl (by kernel_rfl) (by kernel_rfl) (by kernel_rfl) (fun _ _ _ h => h) (Or.inl ⟨by rfl, ?hy7r1⟩) (by exact hHeld) ?_
          case hy7r1 => (intro w hSw; (try dsimp only at hSw); go_simp; try (with_reducible rfl))
          try simp only [Act.put, List.setIfInBounds_toArray, List.set_cons_zero, List.set_cons_succ]
          refine wpAnyH_take (i := 8) (oi := { dst := some 57, op := Op.build 45 #[(0, Operand.tmp 50), (1, Operand.tmp 52), (2, Operand.const (Value.bool true)), (3, Operand.tmp 56)], type := 45, pos := "queue.go:60", after := #[{ on := 1, ground := Ground.data }, { on := 3, ground := Ground.data }, { on := 7, ground := Ground.data }], guard := none }) (v := .agg PS.toArray) rfl (by kernel_rfl) (by kernel_rfl) (by kernel_rfl) (fun _ _ _ h => h) (Or.inl ⟨by rfl, ?hy8r1⟩) (by exact hHeld) ?_
          case hy8r1 => (intro w hSw; exact exec_build rfl (by simpa [Act.eval, Act.put] using unhide HB1) w)
          try simp only [Act.put, List.setIfInBounds_toArray, List.set_cons_zero, List.set_cons_succ]
          refine wpAnyH_ready (rs := [9]) (by kernel_rfl) (by simp) ?_
          refine AllReadyH.cons (o := { dst := some 11, op := Op.alloc 45, type := 0, pos := "queue.go:60", after := #[], guard := none }) rfl (fun K hK => ?_) AllReadyH.nil
          go_simp
          refine hK.out _ _ (S1 _) (fun _ => ?_)
          clear hK K
          try simp only [Act.put, List.setIfInBounds_toArray, List.set_cons_zero, List.set_cons_succ]
          refine wpAnyH_ready (rs := [10]) (by kernel_rfl) (by simp) ?_
          refine AllReadyH.cons (o := { dst := none, op := Op.store 45 (Operand.tmp 11) (Operand.tmp 57), type := 0, pos := "queue.go:60", after := #[{ on := 9, ground := Ground.data }, { on := 8, ground := Ground.data }, { on := 0, ground := Ground.phase }, { on := 1, ground := Ground.phase }, { on := 2, ground := Ground.phase }, { on := 3, ground := Ground.phase }, { on := 4, ground := Ground.phase }, { on := 5, ground := Ground.phase }, { on := 6, ground := Ground.phase }, { on := 7, ground := Ground.phase }, { on := 8, ground := Ground.phase }, { on := 9, ground := Ground.phase }], guard := none }) rfl (fun K hK => ?_) AllReadyH.nil
          refine step_storeQ rfl 45 (.tmp 11) (.tmp 57) rfl W.heap.size 0 PS.toArray (by first | rfl | simp [Act.eval, Act.put]) (by first | rfl | simp [Act.eval, Act.put]) (unhide HTH _ rfl) (by rw [List.size_toArray, (unhide HJ).2.2.2]; exact infoPkS) (all_oneCell_toArray (unhide H1C)) ?_
          refine hK.out _ _ (unhide HS2 _ rfl) (fun _ => ?_)
          clear hK K
          try simp only [Act.put]
          refine wpAnyH_done (by kernel_rfl) ?_ _
          generalize hV : World.setCells (World.alloc W _) W.heap.size 0 PS.toArray.toList = V
          obtain ⟨v1, v2⟩ := unhide HEND _ rfl V hV
          have RV : Hid (V.drew.rangeAt W.heap.size 0 PS) := v1
          have HBV := hide v2
          clear hV v1 v2 HEND HTH HB1 y0 y1 y3 g0 g1 g3 S0 S1 HS2
          go_upto_region 11 with fail
          refine wp_region_any (by kernel_rfl) ?_
          change wpAny _ _ _ _ _ _ _ (World.drew _)
          refine wpAny_take (i := 0) (oi := { dst := some 58, op := Op.move (Operand.tmp 8), type := 22, pos := "queue.go:61", after := #[], guard := none }) (v := .slice (some ⟨g, 0, none⟩) n c) rfl (by kernel_rfl) (by kernel_rfl) (by kernel_rfl) (fun _ _ _ h => h) (Or.inl ⟨by rfl, fun w => by go_simp⟩) ?_
          try simp only [Act.put, List.setIfInBounds_toArray, List.set_cons_zero, List.set_cons_succ]
          refine wpAny_take (i := 1) (oi := { dst := some 59, op := Op.move (Operand.tmp 10), type := 52, pos := "queue.go:61", after := #[{ on := 4, ground := Ground.gcOnly Departure.lateStores }], guard := none }) (v := (.slice a' n' c')) rfl (by kernel_rfl) (by kernel_rfl) (by kernel_rfl) (fun _ _ _ h => h) (Or.inl ⟨by rfl, fun w => by go_simp⟩) ?_
          try simp only [Act.put, List.setIfInBounds_toArray, List.set_cons_zero, List.set_cons_succ]
          refine wpAny_take (i := 4) (oi := { dst := some 4, op := Op.assign (Operand.tmp 58), type := 22, pos := "queue.go:61", after := #[{ on := 0, ground := Ground.data }, { on := 0, ground := Ground.phase }, { on := 1, ground := Ground.textOnly Departure.lateStores }, { on := 2, ground := Ground.textOnly Departure.lateStores }, { on := 3, ground := Ground.textOnly Departure.lateStores }], guard := none }) (v := .slice (some ⟨g, 0, none⟩) n c) rfl (by kernel_rfl) (by kernel_rfl) (by kernel_rfl) (fun _ _ _ h => h) (Or.inl ⟨by rfl, fun w => by go_simp⟩) ?_
          try simp only [Act.put, List.setIfInBounds_toArray, List.set_cons_zero, List.set_cons_succ]
          refine wpAny_take (i := 5) (oi := { dst := some 5, op := Op.assign (Operand.tmp 59), type := 52, pos := "queue.go:61", after := #[{ on := 1, ground := Ground.data }, { on := 4, ground := Ground.chain }, { on := 0, ground := Ground.phase }, { on := 1, ground := Ground.phase }, { on := 2, ground := Ground.textOnly Departure.lateStores }, { on := 3, ground := Ground.textOnly Departure.lateStores }, { on := 4, ground := Ground.phase }], guard := none }) (v := (.slice a' n' c')) rfl (by kernel_rfl) (by kernel_rfl) (by kernel_rfl) (fun _ _ _ h => h) (Or.inl ⟨by rfl, fun w => by go_simp⟩) ?_
          try simp only [Act.put, List.setIfInBounds_toArray, List.set_cons_zero, List.set_cons_succ]
          refine wpAny_ready (rs := [2]) (by kernel_rfl) (by simp) (AllReady.cons (o := { dst := some 60, op := Op.load 45 (Operand.tmp 11), type := 45, pos := "queue.go:61", after := #[{ on := 5, ground := Ground.gcOnly Departure.lateStores }], guard := none }) rfl (fun K hK => ?_) AllReady.nil)
          refine step_loadQ rfl 45 (.tmp 11) rfl W.heap.size 0 (by first | rfl | simp [Act.eval, Act.put]) PS _ (unhide RV) Try.underlying45 rfl (by rw [(unhide HJ).2.2.2]; exact infoPkS) ?_
          refine hK _ _ ?_
          clear hK K
          try simp only [Act.put, List.setIfInBounds_toArray, List.set_cons_zero, List.set_cons_succ]
          refine wpAny_ready (rs := [3]) (by kernel_rfl) (by simp) (AllReady.cons (o := { dst := some 61, op := Op.buildSlice 53 1 #[(0, Operand.tmp 60)], type := 53, pos := "queue.go:61", after := #[{ on := 2, ground := Ground.data }, { on := 5, ground := Ground.gcOnly Departure.lateStores }], guard := none }) rfl (fun K hK => ?_) AllReady.nil)
          refine step_buildM rfl 53 45 (.tmp 60) rfl PS (by first | rfl | simp [Act.eval, Act.put]) j0 (.agg pt0) Try.underlying53 (unhide HJ).1 (unhide HJ).2.1 (by rw [(unhide HJ).2.2.2]; exact (unhide HJ).2.2.1) (by rw [(unhide HJ).2.2.2]; decide) (by rw [(unhide HJ).2.2.2]; decide) ?_
          refine hK _ _ ?_
          clear hK K
          try simp only [Act.put, List.setIfInBounds_toArray, List.set_cons_zero, List.set_cons_succ]
          refine wpAny_ready (rs := [6]) (by kernel_rfl) (by simp) (AllReady.cons (o := { dst := some 6, op := Op.assign (Operand.tmp 61), type := 53, pos := "queue.go:61", after := #[{ on := 3, ground := Ground.data }, { on := 5, ground := Ground.chain }, { on := 0, ground := Ground.phase }, { on := 1, ground := Ground.phase }, { on := 2, ground := Ground.phase }, { on := 3, ground := Ground.phase }, { on := 4, ground := Ground.phase }, { on := 5, ground := Ground.phase }], guard := none }) rfl (fun K hK => ?_) AllReady.nil)
          go_simp
          refine hK _ _ ?_
          clear hK K
          try simp only [Act.put, List.setIfInBounds_toArray, List.set_cons_zero, List.set_cons_succ]
          refine wpAny_ready (rs := [7]) (by kernel_rfl) (by simp) (AllReady.cons (o := { dst := some 7, op := Op.assign (Operand.const (Value.int IntKind.i64 0)), type := 49, pos := "queue.go:61", after := #[{ on := 6, ground := Ground.chain }, { on := 0, ground := Ground.phase }, { on := 1, ground := Ground.phase }, { on := 2, ground := Ground.phase }, { on := 3, ground := Ground.phase }, { on := 4, ground := Ground.phase }, { on := 5, ground := Ground.phase }, { on := 6, ground := Ground.phase }], guard := none }) rfl (fun K hK => ?_) AllReady.nil)
          go_simp
          refine hK _ _ ?_
          clear hK K
          try simp only [Act.put, List.setIfInBounds_toArray, List.set_cons_zero, List.set_cons_succ]
          refine wpAny_done (by kernel_rfl) ?_ _
          go_wp2_with fail
          (try simp only [Exit.inBlock, Exit.then])
          refine bodyPost_ret (results_tmp4 rfl _ _ _) rfl ?_
          obtain ⟨q', T, tx, xs2, t1, t2, t3, t4⟩ := unhide HQQ
          have b8 : Below w6.heap.size w6 (V.drew.alloc (.cells PS.toArray 45)) := bw_tr (by have := (Below.refl w6.heap.size w6).drew; rw [← unhide HWD] at this; exact this) (bw_tr (unhide HBV).drew (bwA _ _))
          refine ⟨_, _, _, 0, rfl, bw_tr (unhide HBW6) b8, Or.inr ⟨rfl, (unhide HOK).1, (unhide HOK).2, k, L, q, (unhide HL).1, (unhide HL).2.1, Or.inr ⟨unhide HAK, q', T, xs2, tx, [fx00], t1, t3.abv (Abv.of b8), t4.abv (Abv.of b8), fun w9 h9 => ?_⟩⟩⟩
          have hk9 := heap_alloc_new V.drew (.cells PS.toArray 45)
          have hnb : w.heap.size ≤ V.drew.heap.size := (by have a1 := (unhide HBW6).size; have a2 := (unhide HBV).size; have a3 : W.heap.size = w6.heap.size := by rw [unhide HWD]; rfl
                                                           have a4 : V.drew.heap.size = V.heap.size := rfl
                                                           omega)
          have hk9' : w9.heap[V.drew.heap.size]? = some (.cells PS.toArray 45 (0, 0)) := (h9.block _ hnb (lt_of_blk hk9)).trans hk9
          refine pk_rd (p := ⟨p.tu, p.fr, true, q'.ex, fdK 0 0⟩) (blk_rngQ hk9' (fun j u hj => ?_)) (fdK_r _ 0 0) (fdK_s 0 0) rfl
          rw [← (unhide HNM).1, ← (unhide HNM).2, t2, ← unhide HPS] at hj
          rw [Nat.zero_add]
          simpa using hj
        · refine step_loadQ rfl 43 (.tmp 44) rfl w.heap.size 4 (by first | rfl | simp [Act.eval, Act.put]) FS _ (unhide RNG) Try.underlying43 rfl (unhide HIF) ?_
          refine hK _ _ ?_
          clear hK K
          try simp only [Act.put, List.setIfInBounds_toArray, List.set_cons_zero, List.set_cons_succ]
          refine wpAny_ready (rs := [2, 5]) (by kernel_rfl) (by simp) (AllReady.cons (o := { dst := some 43, op := Op.load 3 (Operand.tmp 42), type := 3, pos := "queue.go:59", after := #[{ on := 1, ground := Ground.data }], guard := none }) rfl (fun K hK => ?_) (AllReady.cons (o := { dst := some 46, op := Op.call { callee := Callee.value (Operand.func 26), args := #[Operand.tmp 45], argTypes := #[43] }, type := 43, pos := "queue.go:59", after := #[{ on := 4, ground := Ground.data }], guard := none }) rfl (fun K hK => ?_) AllReady.nil))
          · go_simp
            refine hK _ _ ?_
            clear hK K
            try simp only [Act.put, List.setIfInBounds_toArray, List.set_cons_zero, List.set_cons_succ]
            refine wpAny_ready (rs := [5]) (by kernel_rfl) (by simp) (AllReady.cons (o := { dst := some 46, op := Op.call { callee := Callee.value (Operand.func 26), args := #[Operand.tmp 45], argTypes := #[43] }, type := 43, pos := "queue.go:59", after := #[{ on := 4, ground := Ground.data }], guard := none }) rfl (fun K hK => ?_) AllReady.nil)
            go_simp
            refine (unhide KFF).mono ?_
            rintro e_ zz ⟨y', rfl, hO, b3⟩
            have d4 : zz.cell? ⟨w.heap.size, 3, none⟩ = some (.int .i64 sq) := (by rw [b3.cell hw4]; exact d3)
            have HX := hide (And.intro (unhide hO) b3)
            obtain ⟨FY, hFY⟩ : ∃ z, z = fdC p.fd y' := ⟨_, rfl⟩
            rw [← hFY]
            have HFY := hide hFY
            clear hO b3 hFY
            go_wp2_with fail
            try simp only [Act.put, List.setIfInBounds_toArray, List.set_cons_zero, List.set_cons_succ]
            refine wpAny_ready (rs := [6]) (by kernel_rfl) (by simp) (AllReady.cons (o := { dst := some 47, op := Op.build 87 #[(0, Operand.tmp 43), (1, Operand.tmp 46)], type := 87, pos := "queue.go:59", after := #[{ on := 2, ground := Ground.data }, { on := 5, ground := Ground.data }], guard := none }) rfl (fun K hK => ?_) AllReady.nil)
            refine step_buildS rfl 87 _ rfl (erC ⟨sq, p.fd⟩ y').toArray (by have h_ := built_early sq p.fd y'; rw [← unhide HFY] at h_; simpa [Act.eval, Act.put] using h_) ?_
            obtain ⟨EY, hEY⟩ : ∃ z, z = (erC ⟨sq, p.fd⟩ y').toArray := ⟨_, rfl⟩
            rw [← hEY]
            have KRR := hide (unhide KR zz y' (unhide HX).1 (unhide HX).2)
            rw [← hEY] at KRR
            clear hEY HFY
            refine hK _ _ ?_
            clear hK K
            try simp only [Act.put, List.setIfInBounds_toArray, List.set_cons_zero, List.set_cons_succ]
            refine wpAny_ready (rs := [7]) (by kernel_rfl) (by simp) (AllReady.cons (o := { dst := some 48, op := Op.call { callee := Callee.value (Operand.func 29), args := #[Operand.tmp 41, Operand.tmp 47], argTypes := #[79, 87] }, type := 52, pos := "queue.go:59", after := #[{ on := 0, ground := Ground.data }, { on := 6, ground := Ground.data }, { on := 5, ground := Ground.chain }], guard := none }) rfl (fun K hK => ?_) AllReady.nil)
            go_simp
            refine (unhide KRR).mono ?_
            rintro e_ w6 ⟨a', n', c', rfl, ex', HQ⟩
            clear KRR
            go_wp2_with fail
            try simp only [Act.put, List.setIfInBounds_toArray, List.set_cons_zero, List.set_cons_succ]
            refine wpAny_ready (rs := [8]) (by kernel_rfl) (by simp) (AllReady.cons (o := { dst := some 10, op := Op.assign (Operand.tmp 48), type := 52, pos := "queue.go:59", after := #[{ on := 7, ground := Ground.data }, { on := 7, ground := Ground.chain }, { on := 0, ground := Ground.phase }, { on := 1, ground := Ground.phase }, { on := 2, ground := Ground.phase }, { on := 3, ground := Ground.phase }, { on := 4, ground := Ground.phase }, { on := 5, ground := Ground.phase }, { on := 6, ground := Ground.phase }, { on := 7, ground := Ground.phase }], guard := none }) rfl (fun K hK => ?_) AllReady.nil)
            go_simp
            refine hK _ _ ?_
            clear hK K
            try simp only [Act.put, List.setIfInBounds_toArray, List.set_cons_zero, List.set_cons_succ]
            refine wpAny_done (by kernel_rfl) ?_ _
            clear KR HX RNG HIF d3 d4 KFF
            obtain ⟨HQ1, e3, HB6, HBW6⟩ := unhide HQ
            have HQQ := hide HQ1
            have HBW6 := hide HBW6
            obtain ⟨f0, f1, _, _, _, _⟩ := unhide HC w6 HB6
            obtain ⟨fr, hfr⟩ : ∃ z, z = p.fr := ⟨_, rfl⟩
            obtain ⟨tu, htu⟩ : ∃ z, z = p.tu := ⟨_, rfl⟩
            rw [← hfr] at f0
            rw [← htu] at f1
            have HNM := hide (And.intro hfr htu)
            obtain ⟨W, hW⟩ : ∃ W, W = w6.drew := ⟨_, rfl⟩
            have g0 : W.cell? ⟨w.heap.size, 0, none⟩ = some (.int .i64 fr) := (by rw [hW]; exact f0)
            have g1 : W.cell? ⟨w.heap.size, 1, none⟩ = some (.int .i64 tu) := (by rw [hW]; exact f1)
            have g3 : W.cell? ⟨g, k * 5 + 3, none⟩ = some (.int .i64 ex') := (by rw [hW]; exact e3)
            have y0 : ∀ o, (W.alloc o).cell? ⟨w.heap.size, 0, none⟩ = some (.int .i64 fr) := fun o => (by rw [(bwA W o).cell (lt_of_cell g0)]; exact g0)
            have y1 : ∀ o, (W.alloc o).cell? ⟨w.heap.size, 1, none⟩ = some (.int .i64 tu) := fun o => (by rw [(bwA W o).cell (lt_of_cell g1)]; exact g1)
            have y3 : ∀ o, (W.alloc o).cell? ⟨g, k * 5 + 3, none⟩ = some (.int .i64 ex') := fun o => (by rw [(bwA W o).cell (lt_of_cell g3)]; exact g3)
            obtain ⟨PS, hPS⟩ : ∃ PS, PS = ptC ⟨tu, fr, true, ex', fdK 0 0⟩ fx00 := ⟨_, rfl⟩
            have hPl : PS.length = 57 := (by rw [hPS]; rfl)
            have HB1 : Hid (Try.prog.built 45 [(0, .int .i64 tu), (1, .int .i64 fr), (2, .bool true), (3, .int .i64 ex')] = some PS.toArray) := (by rw [hPS]; exact built_back tu fr ex')
            have H1C : Hid (∀ u ∈ PS, u.oneCell' = true) := (by rw [hPS]; exact pt_one (p := ⟨tu, fr, true, ex', fdK 0 0⟩) (fdK_r W 0 0))
            have HTH : Hid (∀ cs : Array Value, cs.size = 57 → (W.alloc (.cells cs 45)).there W.heap.size 0 PS.toArray.size) := fun cs hc => new_there W cs (by rw [hc, List.size_toArray, hPl])
            have S0 : W.cell? ⟨w.heap.size, 0, none⟩ = some (.int .i64 fr) ∧ W.cell? ⟨w.heap.size, 1, none⟩ = some (.int .i64 tu) ∧ W.cell? ⟨g, k * 5 + 3, none⟩ = some (.int .i64 ex') := ⟨g0, g1, g3⟩
            have S1 : ∀ o, (W.alloc o).cell? ⟨w.heap.size, 0, none⟩ = some (.int .i64 fr) ∧ (W.alloc o).cell? ⟨w.heap.size, 1, none⟩ = some (.int .i64 tu) ∧ (W.alloc o).cell? ⟨g, k * 5 + 3, none⟩ = some (.int .i64 ex') := fun o => ⟨y0 o, y1 o, y3 o⟩
            have HS2 : Hid (∀ cs : Array Value, cs.size = 57 → ((W.alloc (.cells cs 45)).setCells W.heap.size 0 PS.toArray.toList).cell? ⟨w.heap.size, 0, none⟩ = some (.int .i64 fr) ∧ ((W.alloc (.cells cs 45)).setCells W.heap.size 0 PS.toArray.toList).cell? ⟨w.heap.size, 1, none⟩ = some (.int .i64 tu) ∧ ((W.alloc (.cells cs 45)).setCells W.heap.size 0 PS.toArray.toList).cell? ⟨g, k * 5 + 3, none⟩ = some (.int .i64 ex')) := fun cs hc => (by
              have b := (new_put W cs PS (t := 45) (by rw [hc, hPl]) _ rfl).2
              exact ⟨by rw [b.cell (lt_of_cell g0)]; exact g0, by rw [b.cell (lt_of_cell g1)]; exact g1, by rw [b.cell (lt_of_cell g3)]; exact g3⟩)
            have HEND : Hid (∀ cs : Array Value, cs.size = 57 → ∀ V, (W.alloc (.cells cs 45)).setCells W.heap.size 0 PS.toArray.toList = V → V.rangeAt W.heap.size 0 PS ∧ Below W.heap.size W V) := fun cs hc V hV => new_put W cs PS (by rw [hc, hPl]) V hV
            obtain ⟨j0, hj, hy0, hy1, _⟩ := info_parts infoKPacket
            have HJ := hide (And.intro hj (And.intro hy0 (And.intro hy1 hPl)))
            have HPS := hide hPS
            have HWD := hide hW
            clear hj hy0 hy1 hPl hPS HQ HQ1 e3 f0 f1 hfr htu hW c2 HC HB6
            go_upto_region 10 with fail
            refine wp_region_held_drew (S := fun w' : World => (w').cell? ⟨w.heap.size, 0, none⟩ = some (.int .i64 fr) ∧ (w').cell? ⟨w.heap.size, 1, none⟩ = some (.int .i64 tu) ∧ (w').cell? ⟨g, k * 5 + 3, none⟩ = some (.int .i64 ex')) (by kernel_rfl) (by rw [← unhide HWD]; exact S0) (fun hHeld => ?_)
            revert hHeld
            rw [← unhide HWD]
            intro hHeld
            refine wpAnyH_take (i := 0) (oi := { dst := some 49, op := Op.fieldAddr 45 (Operand.tmp 3) 1, type := 0, pos := "queue.go:60", after := #[], guard := none }) (v := ?v0r2) rfl (by kernel_rfl) (by kernel_rfl) (by kernel_rfl) (fun _ _ _ h => h) (Or.inl ⟨by rfl, ?hy0r2⟩) (by exact hHeld) ?_
            case hy0r2 => (intro w hSw; (try dsimp only at hSw); go_simp; try (with_reducible rfl))
            try simp only [Act.put, List.setIfInBounds_toArray, List.set_cons_zero, List.set_cons_succ]
            refine wpAnyH_take (i := 1) (oi := { dst := some 50, op := Op.load 3 (Operand.tmp 49), type := 3, pos := "queue.go:60", after := #[{ on := 0, ground := Ground.data }], guard := none }) (v := ?v1r2) rfl (by kernel_rfl) (by kernel_rfl) (by kernel_rfl) (fun _ _ _ h => h) (Or.inl ⟨by rfl, ?hy1r2⟩) (by exact hHeld) ?_
            case hy1r2 => (intro w hSw; (try dsimp only at hSw); go_simp; try (with_reducible rfl))
            try simp only [Act.put, List.setIfInBounds_toArray, List.set_cons_zero, List.set_cons_succ]
            refine wpAnyH_take (i := 2) (oi := { dst := some 51, op := Op.fieldAddr 45 (Operand.tmp 3) 0, type := 0, pos := "queue.go:60", after := #[], guard := none }) (v := ?v2r2) rfl (by kernel_rfl) (by kernel_rfl) (by kernel_rfl) (fun _ _ _ h => h) (Or.inl ⟨by rfl, ?hy2r2⟩) (by exact hHeld) ?_
            case hy2r2 => (intro w hSw; (try dsimp only at hSw); go_simp; try (with_reducible rfl))
            try simp only [Act.put, List.setIfInBounds_toArray, List.set_cons_zero, List.set_cons_succ]
            refine wpAnyH_take (i := 3) (oi := { dst := some 52, op := Op.load 3 (Operand.tmp 51), type := 3, pos := "queue.go:60", after := #[{ on := 2, ground := Ground.data }], guard := none }) (v := ?v3r2) rfl (by kernel_rfl) (by kernel_rfl) (by kernel_rfl) (fun _ _ _ h => h) (Or.inl ⟨by rfl, ?hy3r2⟩) (by exact hHeld) ?_
            case hy3r2 => (intro w hSw; (try dsimp only at hSw); go_simp; try (with_reducible rfl))
            try simp only [Act.put, List.setIfInBounds_toArray, List.set_cons_zero, List.set_cons_succ]
            refine wpAnyH_take (i := 4) (oi := { dst := some 53, op := Op.move (Operand.tmp 9), type := 79, pos := "queue.go:60", after := #[], guard := none }) (v := ?v4r2) rfl (by kernel_rfl) (by kernel_rfl) (by kernel_rfl) (fun _ _ _ h => h) (Or.inl ⟨by rfl, ?hy4r2⟩) (by exact hHeld) ?_
            case hy4r2 => (intro w hSw; (try dsimp only at hSw); go_simp; try (with_reducible rfl))
            try simp only [Act.put, List.setIfInBounds_toArray, List.set_cons_zero, List.set_cons_succ]
            refine wpAnyH_take (i := 5) (oi := { dst := some 54, op := Op.nilCheck (Operand.tmp 53), type := 0, pos := "queue.go:60", after := #[{ on := 4, ground := Ground.data }], guard := none }) (v := ?v5r2) rfl (by kernel_rfl) (by kernel_rfl) (by kernel_rfl) (fun _ _ _ h => h) (Or.inl ⟨by rfl, ?hy5r2⟩) (by exact hHeld) ?_
            case hy5r2 => (intro w hSw; (try dsimp only at hSw); go_simp; try (with_reducible rfl))
            try simp only [Act.put, List.setIfInBounds_toArray, List.set_cons_zero, List.set_cons_succ]
            refine wpAnyH_take (i := 6) (oi := { dst := some 55, op := Op.fieldAddr 73 (Operand.tmp 54) 3, type := 0, pos := "queue.go:60", after := #[{ on := 5, ground := Ground.data }], guard := none }) (v := ?v6r2) rfl (by kernel_rfl) (by kernel_rfl) (by kernel_rfl) (fun _ _ _ h => h) (Or.inl ⟨by rfl, ?hy6r2⟩) (by exact hHeld) ?_
            case hy6r2 => (intro w hSw; (try dsimp only at hSw); go_simp; try (with_reducible rfl))
            try simp only [Act.put, List.setIfInBounds_toArray, List.set_cons_zero, List.set_cons_succ]
            refine wpAnyH_take (i := 7) (oi := { dst := some 56, op := Op.load 3 (Operand.tmp 55), type := 3, pos := "queue.go:60", after := #[{ on := 6, ground := Ground.data }], guard := none }) (v := ?v7r2) rfl (by kernel_rfl) (by kernel_rfl) (by kernel_rfl) (fun _ _ _ h => h) (Or.inl ⟨by rfl, ?hy7r2⟩) (by exact hHeld) ?_
            case hy7r2 => (intro w hSw; (try dsimp only at hSw); go_simp; try (with_reducible rfl))
            try simp only [Act.put, List.setIfInBounds_toArray, List.set_cons_zero, List.set_cons_succ]
            refine wpAnyH_take (i := 8) (oi := { dst := some 57, op := Op.build 45 #[(0, Operand.tmp 50), (1, Operand.tmp 52), (2, Operand.const (Value.bool true)), (3, Operand.tmp 56)], type := 45, pos := "queue.go:60", after := #[{ on := 1, ground := Ground.data }, { on := 3, ground := Ground.data }, { on := 7, ground := Ground.data }], guard := none }) (v := .agg PS.toArray) rfl (by kernel_rfl) (by kernel_rfl) (by kernel_rfl) (fun _ _ _ h => h) (Or.inl ⟨by rfl, ?hy8r2⟩) (by exact hHeld) ?_
            case hy8r2 => (intro w hSw; exact exec_build rfl (by simpa [Act.eval, Act.put] using unhide HB1) w)
            try simp only [Act.put, List.setIfInBounds_toArray, List.set_cons_zero, List.set_cons_succ]
            refine wpAnyH_ready (rs := [9]) (by kernel_rfl) (by simp) ?_
            refine AllReadyH.cons (o := { dst := some 11, op := Op.alloc 45, type := 0, pos := "queue.go:60", after := #[], guard := none }) rfl (fun K hK => ?_) AllReadyH.nil
            go_simp
            refine hK.out _ _ (S1 _) (fun _ => ?_)
            clear hK K
            try simp only [Act.put, List.setIfInBounds_toArray, List.set_cons_zero, List.set_cons_succ]
            refine wpAnyH_ready (rs := [10]) (by kernel_rfl) (by simp) ?_
            refine AllReadyH.cons (o := { dst := none, op := Op.store 45 (Operand.tmp 11) (Operand.tmp 57), type := 0, pos := "queue.go:60", after := #[{ on := 9, ground := Ground.data }, { on := 8, ground := Ground.data }, { on := 0, ground := Ground.phase }, { on := 1, ground := Ground.phase }, { on := 2, ground := Ground.phase }, { on := 3, ground := Ground.phase }, { on := 4, ground := Ground.phase }, { on := 5, ground := Ground.phase }, { on := 6, ground := Ground.phase }, { on := 7, ground := Ground.phase }, { on := 8, ground := Ground.phase }, { on := 9, ground := Ground.phase }], guard := none }) rfl (fun K hK => ?_) AllReadyH.nil
            refine step_storeQ rfl 45 (.tmp 11) (.tmp 57) rfl W.heap.size 0 PS.toArray (by first | rfl | simp [Act.eval, Act.put]) (by first | rfl | simp [Act.eval, Act.put]) (unhide HTH _ rfl) (by rw [List.size_toArray, (unhide HJ).2.2.2]; exact infoPkS) (all_oneCell_toArray (unhide H1C)) ?_
            refine hK.out _ _ (unhide HS2 _ rfl) (fun _ => ?_)
            clear hK K
            try simp only [Act.put]
            refine wpAnyH_done (by kernel_rfl) ?_ _
            generalize hV : World.setCells (World.alloc W _) W.heap.size 0 PS.toArray.toList = V
            obtain ⟨v1, v2⟩ := unhide HEND _ rfl V hV
            have RV : Hid (V.drew.rangeAt W.heap.size 0 PS) := v1
            have HBV := hide v2
            clear hV v1 v2 HEND HTH HB1 y0 y1 y3 g0 g1 g3 S0 S1 HS2
            go_upto_region 11 with fail
            refine wp_region_any (by kernel_rfl) ?_
            change wpAny _ _ _ _ _ _ _ (World.drew _)
            refine wpAny_take (i := 0) (oi := { dst := some 58, op := Op.move (Operand.tmp 8), type := 22, pos := "queue.go:61", after := #[], guard := none }) (v := .slice (some ⟨g, 0, none⟩) n c) rfl (by kernel_rfl) (by kernel_rfl) (by kernel_rfl) (fun _ _ _ h => h) (Or.inl ⟨by rfl, fun w => by go_simp⟩) ?_
            try simp only [Act.put, List.setIfInBounds_toArray, List.set_cons_zero, List.set_cons_succ]
            refine wpAny_take (i := 1) (oi := { dst := some 59, op := Op.move (Operand.tmp 10), type := 52, pos := "queue.go:61", after := #[{ on := 4, ground := Ground.gcOnly Departure.lateStores }], guard := none }) (v := (.slice a' n' c')) rfl (by kernel_rfl) (by kernel_rfl) (by kernel_rfl) (fun _ _ _ h => h) (Or.inl ⟨by rfl, fun w => by go_simp⟩) ?_
            try simp only [Act.put, List.setIfInBounds_toArray, List.set_cons_zero, List.set_cons_succ]
            refine wpAny_take (i := 4) (oi := { dst := some 4, op := Op.assign (Operand.tmp 58), type := 22, pos := "queue.go:61", after := #[{ on := 0, ground := Ground.data }, { on := 0, ground := Ground.phase }, { on := 1, ground := Ground.textOnly Departure.lateStores }, { on := 2, ground := Ground.textOnly Departure.lateStores }, { on := 3, ground := Ground.textOnly Departure.lateStores }], guard := none }) (v := .slice (some ⟨g, 0, none⟩) n c) rfl (by kernel_rfl) (by kernel_rfl) (by kernel_rfl) (fun _ _ _ h => h) (Or.inl ⟨by rfl, fun w => by go_simp⟩) ?_
            try simp only [Act.put, List.setIfInBounds_toArray, List.set_cons_zero, List.set_cons_succ]
            refine wpAny_take (i := 5) (oi := { dst := some 5, op := Op.assign (Operand.tmp 59), type := 52, pos := "queue.go:61", after := #[{ on := 1, ground := Ground.data }, { on := 4, ground := Ground.chain }, { on := 0, ground := Ground.phase }, { on := 1, ground := Ground.phase }, { on := 2, ground := Ground.textOnly Departure.lateStores }, { on := 3, ground := Ground.textOnly Departure.lateStores }, { on := 4, ground := Ground.phase }], guard := none }) (v := (.slice a' n' c')) rfl (by kernel_rfl) (by kernel_rfl) (by kernel_rfl) (fun _ _ _ h => h) (Or.inl ⟨by rfl, fun w => by go_simp⟩) ?_
            try simp only [Act.put, List.setIfInBounds_toArray, List.set_cons_zero, List.set_cons_succ]
            refine wpAny_ready (rs := [2]) (by kernel_rfl) (by simp) (AllReady.cons (o := { dst := some 60, op := Op.load 45 (Operand.tmp 11), type := 45, pos := "queue.go:61", after := #[{ on := 5, ground := Ground.gcOnly Departure.lateStores }], guard := none }) rfl (fun K hK => ?_) AllReady.nil)
            refine step_loadQ rfl 45 (.tmp 11) rfl W.heap.size 0 (by first | rfl | simp [Act.eval, Act.put]) PS _ (unhide RV) Try.underlying45 rfl (by rw [(unhide HJ).2.2.2]; exact infoPkS) ?_
            refine hK _ _ ?_
            clear hK K
            try simp only [Act.put, List.setIfInBounds_toArray, List.set_cons_zero, List.set_cons_succ]
            refine wpAny_ready (rs := [3]) (by kernel_rfl) (by simp) (AllReady.cons (o := { dst := some 61, op := Op.buildSlice 53 1 #[(0, Operand.tmp 60)], type := 53, pos := "queue.go:61", after := #[{ on := 2, ground := Ground.data }, { on := 5, ground := Ground.gcOnly Departure.lateStores }], guard := none }) rfl (fun K hK => ?_) AllReady.nil)
            refine step_buildM rfl 53 45 (.tmp 60) rfl PS (by first | rfl | simp [Act.eval, Act.put]) j0 (.agg pt0) Try.underlying53 (unhide HJ).1 (unhide HJ).2.1 (by rw [(unhide HJ).2.2.2]; exact (unhide HJ).2.2.1) (by rw [(unhide HJ).2.2.2]; decide) (by rw [(unhide HJ).2.2.2]; decide) ?_
            refine hK _ _ ?_
            clear hK K
            try simp only [Act.put, List.setIfInBounds_toArray, List.set_cons_zero, List.set_cons_succ]
            refine wpAny_ready (rs := [6]) (by kernel_rfl) (by simp) (AllReady.cons (o := { dst := some 6, op := Op.assign (Operand.tmp 61), type := 53, pos := "queue.go:61", after := #[{ on := 3, ground := Ground.data }, { on := 5, ground := Ground.chain }, { on := 0, ground := Ground.phase }, { on := 1, ground := Ground.phase }, { on := 2, ground := Ground.phase }, { on := 3, ground := Ground.phase }, { on := 4, ground := Ground.phase }, { on := 5, ground := Ground.phase }], guard := none }) rfl (fun K hK => ?_) AllReady.nil)
            go_simp
            refine hK _ _ ?_
            clear hK K
            try simp only [Act.put, List.setIfInBounds_toArray, List.set_cons_zero, List.set_cons_succ]
            refine wpAny_ready (rs := [7]) (by kernel_rfl) (by simp) (AllReady.cons (o := { dst := some 7, op := Op.assign (Operand.const (Value.int IntKind.i64 0)), type := 49, pos := "queue.go:61", after := #[{ on := 6, ground := Ground.chain }, { on := 0, ground := Ground.phase }, { on := 1, ground := Ground.phase }, { on := 2, ground := Ground.phase }, { on := 3, ground := Ground.phase }, { on := 4, ground := Ground.phase }, { on := 5, ground := Ground.phase }, { on := 6, ground := Ground.phase }], guard := none }) rfl (fun K hK => ?_) AllReady.nil)
            go_simp
            refine hK _ _ ?_
            clear hK K
            try simp only [Act.put, List.setIfInBounds_toArray, List.set_cons_zero, List.set_cons_succ]
            refine wpAny_done (by kernel_rfl) ?_ _
            go_wp2_with fail
            (try simp only [Exit.inBlock, Exit.then])
            refine bodyPost_ret (results_tmp4 rfl _ _ _) rfl ?_
            obtain ⟨q', T, tx, xs2, t1, t2, t3, t4⟩ := unhide HQQ
            have b8 : Below w6.heap.size w6 (V.drew.alloc (.cells PS.toArray 45)) := bw_tr (by have := (Below.refl w6.heap.size w6).drew; rw [← unhide HWD] at this; exact this) (bw_tr (unhide HBV).drew (bwA _ _))
            refine ⟨_, _, _, 0, rfl, bw_tr (unhide HBW6) b8, Or.inr ⟨rfl, (unhide HOK).1, (unhide HOK).2, k, L, q, (unhide HL).1, (unhide HL).2.1, Or.inr ⟨unhide HAK, q', T, xs2, tx, [fx00], t1, t3.abv (Abv.of b8), t4.abv (Abv.of b8), fun w9 h9 => ?_⟩⟩⟩
            have hk9 := heap_alloc_new V.drew (.cells PS.toArray 45)
            have hnb : w.heap.size ≤ V.drew.heap.size := (by have a1 := (unhide HBW6).size; have a2 := (unhide HBV).size; have a3 : W.heap.size = w6.heap.size := by rw [unhide HWD]; rfl
                                                             have a4 : V.drew.heap.size = V.heap.size := rfl
                                                             omega)
            have hk9' : w9.heap[V.drew.heap.size]? = some (.cells PS.toArray 45 (0, 0)) := (h9.block _ hnb (lt_of_blk hk9)).trans hk9
            refine pk_rd (p := ⟨p.tu, p.fr, true, q'.ex, fdK 0 0⟩) (blk_rngQ hk9' (fun j u hj => ?_)) (fdK_r _ 0 0) (fdK_s 0 0) rfl
            rw [← (unhide HNM).1, ← (unhide HNM).2, t2, ← unhide HPS] at hj
            rw [Nat.zero_add]
            simpa using hj
          · go_simp
            refine (unhide KFF).mono ?_
            rintro e_ zz ⟨y', rfl, hO, b3⟩
            have d4 : zz.cell? ⟨w.heap.size, 3, none⟩ = some (.int .i64 sq) := (by rw [b3.cell hw4]; exact d3)
            have HX := hide (And.intro (unhide hO) b3)
            obtain ⟨FY, hFY⟩ : ∃ z, z = fdC p.fd y' := ⟨_, rfl⟩
            rw [← hFY]
            have HFY := hide hFY
            clear hO b3 hFY
            go_wp2_with fail
            try simp only [Act.put, List.setIfInBounds_toArray, List.set_cons_zero, List.set_cons_succ]
            refine wpAny_ready (rs := [2]) (by kernel_rfl) (by simp) (AllReady.cons (o := { dst := some 43, op := Op.load 3 (Operand.tmp 42), type := 3, pos := "queue.go:59", after := #[{ on := 1, ground := Ground.data }], guard := none }) rfl (fun K hK => ?_) AllReady.nil)
            go_simp
            refine hK _ _ ?_
            clear hK K
            try simp only [Act.put, List.setIfInBounds_toArray, List.set_cons_zero, List.set_cons_succ]
            refine wpAny_ready (rs := [6]) (by kernel_rfl) (by simp) (AllReady.cons (o := { dst := some 47, op := Op.build 87 #[(0, Operand.tmp 43), (1, Operand.tmp 46)], type := 87, pos := "queue.go:59", after := #[{ on := 2, ground := Ground.data }, { on := 5, ground := Ground.data }], guard := none }) rfl (fun K hK => ?_) AllReady.nil)
            refine step_buildS rfl 87 _ rfl (erC ⟨sq, p.fd⟩ y').toArray (by have h_ := built_early sq p.fd y'; rw [← unhide HFY] at h_; simpa [Act.eval, Act.put] using h_) ?_
            obtain ⟨EY, hEY⟩ : ∃ z, z = (erC ⟨sq, p.fd⟩ y').toArray := ⟨_, rfl⟩
            rw [← hEY]
            have KRR := hide (unhide KR zz y' (unhide HX).1 (unhide HX).2)
            rw [← hEY] at KRR
            clear hEY HFY
            refine hK _ _ ?_
            clear hK K
            try simp only [Act.put, List.setIfInBounds_toArray, List.set_cons_zero, List.set_cons_succ]
            refine wpAny_ready (rs := [7]) (by kernel_rfl) (by simp) (AllReady.cons (o := { dst := some 48, op := Op.call { callee := Callee.value (Operand.func 29), args := #[Operand.tmp 41, Operand.tmp 47], argTypes := #[79, 87] }, type := 52, pos := "queue.go:59", after := #[{ on := 0, ground := Ground.data }, { on := 6, ground := Ground.data }, { on := 5, ground := Ground.chain }], guard := none }) rfl (fun K hK => ?_) AllReady.nil)
            go_simp
            refine (unhide KRR).mono ?_
            rintro e_ w6 ⟨a', n', c', rfl, ex', HQ⟩
            clear KRR
            go_wp2_with fail
            try simp only [Act.put, List.setIfInBounds_toArray, List.set_cons_zero, List.set_cons_succ]
            refine wpAny_ready (rs := [8]) (by kernel_rfl) (by simp) (AllReady.cons (o := { dst := some 10, op := Op.assign (Operand.tmp 48), type := 52, pos := "queue.go:59", after := #[{ on := 7, ground := Ground.data }, { on := 7, ground := Ground.chain }, { on := 0, ground := Ground.phase }, { on := 1, ground := Ground.phase }, { on := 2, ground := Ground.phase }, { on := 3, ground := Ground.phase }, { on := 4, ground := Ground.phase }, { on := 5, ground := Ground.phase }, { on := 6, ground := Ground.phase }, { on := 7, ground := Ground.phase }], guard := none }) rfl (fun K hK => ?_) AllReady.nil)
            go_simp
            refine hK _ _ ?_
            clear hK K
            try simp only [Act.put, List.setIfInBounds_toArray, List.set_cons_zero, List.set_cons_succ]
            refine wpAny_done (by kernel_rfl) ?_ _
            clear KR HX RNG HIF d3 d4 KFF
            obtain ⟨HQ1, e3, HB6, HBW6⟩ := unhide HQ
            have HQQ := hide HQ1
            have HBW6 := hide HBW6
            obtain ⟨f0, f1, _, _, _, _⟩ := unhide HC w6 HB6
            obtain ⟨fr, hfr⟩ : ∃ z, z = p.fr := ⟨_, rfl⟩
            obtain ⟨tu, htu⟩ : ∃ z, z = p.tu := ⟨_, rfl⟩
            rw [← hfr] at f0
            rw [← htu] at f1
            have HNM := hide (And.intro hfr htu)
            obtain ⟨W, hW⟩ : ∃ W, W = w6.drew := ⟨_, rfl⟩
            have g0 : W.cell? ⟨w.heap.size, 0, none⟩ = some (.int .i64 fr) := (by rw [hW]; exact f0)
            have g1 : W.cell? ⟨w.heap.size, 1, none⟩ = some (.int .i64 tu) := (by rw [hW]; exact f1)
            have g3 : W.cell? ⟨g, k * 5 + 3, none⟩ = some (.int .i64 ex') := (by rw [hW]; exact e3)
            have y0 : ∀ o, (W.alloc o).cell? ⟨w.heap.size, 0, none⟩ = some (.int .i64 fr) := fun o => (by rw [(bwA W o).cell (lt_of_cell g0)]; exact g0)
            have y1 : ∀ o, (W.alloc o).cell? ⟨w.heap.size, 1, none⟩ = some (.int .i64 tu) := fun o => (by rw [(bwA W o).cell (lt_of_cell g1)]; exact g1)
            have y3 : ∀ o, (W.alloc o).cell? ⟨g, k * 5 + 3, none⟩ = some (.int .i64 ex') := fun o => (by rw [(bwA W o).cell (lt_of_cell g3)]; exact g3)
            obtain ⟨PS, hPS⟩ : ∃ PS, PS = ptC ⟨tu, fr, true, ex', fdK 0 0⟩ fx00 := ⟨_, rfl⟩
            have hPl : PS.length = 57 := (by rw [hPS]; rfl)
            have HB1 : Hid (Try.prog.built 45 [(0, .int .i64 tu), (1, .int .i64 fr), (2, .bool true), (3, .int .i64 ex')] = some PS.toArray) := (by rw [hPS]; exact built_back tu fr ex')
            have H1C : Hid (∀ u ∈ PS, u.oneCell' = true) := (by rw [hPS]; exact pt_one (p := ⟨tu, fr, true, ex', fdK 0 0⟩) (fdK_r W 0 0))
            have HTH : Hid (∀ cs : Array Value, cs.size = 57 → (W.alloc (.cells cs 45)).there W.heap.size 0 PS.toArray.size) := fun cs hc => new_there W cs (by rw [hc, List.size_toArray, hPl])
            have S0 : W.cell? ⟨w.heap.size, 0, none⟩ = some (.int .i64 fr) ∧ W.cell? ⟨w.heap.size, 1, none⟩ = some (.int .i64 tu) ∧ W.cell? ⟨g, k * 5 + 3, none⟩ = some (.int .i64 ex') := ⟨g0, g1, g3⟩
            have S1 : ∀ o, (W.alloc o).cell? ⟨w.heap.size, 0, none⟩ = some (.int .i64 fr) ∧ (W.alloc o).cell? ⟨w.heap.size, 1, none⟩ = some (.int .i64 tu) ∧ (W.alloc o).cell? ⟨g, k * 5 + 3, none⟩ = some (.int .i64 ex') := fun o => ⟨y0 o, y1 o, y3 o⟩
            have HS2 : Hid (∀ cs : Array Value, cs.size = 57 → ((W.alloc (.cells cs 45)).setCells W.heap.size 0 PS.toArray.toList).cell? ⟨w.heap.size, 0, none⟩ = some (.int .i64 fr) ∧ ((W.alloc (.cells cs 45)).setCells W.heap.size 0 PS.toArray.toList).cell? ⟨w.heap.size, 1, none⟩ = some (.int .i64 tu) ∧ ((W.alloc (.cells cs 45)).setCells W.heap.size 0 PS.toArray.toList).cell? ⟨g, k * 5 + 3, none⟩ = some (.int .i64 ex')) := fun cs hc => (by
              have b := (new_put W cs PS (t := 45) (by rw [hc, hPl]) _ rfl).2
              exact ⟨by rw [b.cell (lt_of_cell g0)]; exact g0, by rw [b.cell (lt_of_cell g1)]; exact g1, by rw [b.cell (lt_of_cell g3)]; exact g3⟩)
            have HEND : Hid (∀ cs : Array Value, cs.size = 57 → ∀ V, (W.alloc (.cells cs 45)).setCells W.heap.size 0 PS.toArray.toList = V → V.rangeAt W.heap.size 0 PS ∧ Below W.heap.size W V) := fun cs hc V hV => new_put W cs PS (by rw [hc, hPl]) V hV
            obtain ⟨j0, hj, hy0, hy1, _⟩ := info_parts infoKPacket
            have HJ := hide (And.intro hj (And.intro hy0 (And.intro hy1 hPl)))
            have HPS := hide hPS
            have HWD := hide hW
            clear hj hy0 hy1 hPl hPS HQ HQ1 e3 f0 f1 hfr htu hW c2 HC HB6
            go_upto_region 10 with fail
            refine wp_region_held_drew (S := fun w' : World => (w').cell? ⟨w.heap.size, 0, none⟩ = some (.int .i64 fr) ∧ (w').cell? ⟨w.heap.size, 1, none⟩ = some (.int .i64 tu) ∧ (w').cell? ⟨g, k * 5 + 3, none⟩ = some (.int .i64 ex')) (by kernel_rfl) (by rw [← unhide HWD]; exact S0) (fun hHeld => ?_)
            revert hHeld
            rw [← unhide HWD]
            intro hHeld
            refine wpAnyH_take (i := 0) (oi := { dst := some 49, op := Op.fieldAddr 45 (Operand.tmp 3) 1, type := 0, pos := "queue.go:60", after := #[], guard := none }) (v := ?v0r3) rfl (by kernel_rfl) (by kernel_rfl) (by kernel_rfl) (fun _ _ _ h => h) (Or.inl ⟨by rfl, ?hy0r3⟩) (by exact hHeld) ?_
            case hy0r3 => (intro w hSw; (try dsimp only at hSw); go_simp; try (with_reducible rfl))
            try simp only [Act.put, List.setIfInBounds_toArray, List.set_cons_zero, List.set_cons_succ]
            refine wpAnyH_take (i := 1) (oi := { dst := some 50, op := Op.load 3 (Operand.tmp 49), type := 3, pos := "queue.go:60", after := #[{ on := 0, ground := Ground.data }], guard := none }) (v := ?v1r3) rfl (by kernel_rfl) (by kernel_rfl) (by kernel_rfl) (fun _ _ _ h => h) (Or.inl ⟨by rfl, ?hy1r3⟩) (by exact hHeld) ?_
            case hy1r3 => (intro w hSw; (try dsimp only at hSw); go_simp; try (with_reducible rfl))
            try simp only [Act.put, List.setIfInBounds_toArray, List.set_cons_zero, List.set_cons_succ]
            refine wpAnyH_take (i := 2) (oi := { dst := some 51, op := Op.fieldAddr 45 (Operand.tmp 3) 0, type := 0, pos := "queue.go:60", after := #[], guard := none }) (v := ?v2r3) rfl (by kernel_rfl) (by kernel_rfl) (by kernel_rfl) (fun _ _ _ h => h) (Or.inl ⟨by rfl, ?hy2r3⟩) (by exact hHeld) ?_
            case hy2r3 => (intro w hSw; (try dsimp only at hSw); go_simp; try (with_reducible rfl))
            try simp only [Act.put, List.setIfInBounds_toArray, List.set_cons_zero, List.set_cons_succ]
            refine wpAnyH_take (i := 3) (oi := { dst := some 52, op := Op.load 3 (Operand.tmp 51), type := 3, pos := "queue.go:60", after := #[{ on := 2, ground := Ground.data }], guard := none }) (v := ?v3r3) rfl (by kernel_rfl) (by kernel_rfl) (by kernel_rfl) (fun _ _ _ h => h) (Or.inl ⟨by rfl, ?hy3r3⟩) (by exact hHeld) ?_
            case hy3r3 => (intro w hSw; (try dsimp only at hSw); go_simp; try (with_reducible rfl))
            try simp only [Act.put, List.setIfInBounds_toArray, List.set_cons_zero, List.set_cons_succ]
            refine wpAnyH_take (i := 4) (oi := { dst := some 53, op := Op.move (Operand.tmp 9), type := 79, pos := "queue.go:60", after := #[], guard := none }) (v := ?v4r3) rfl (by kernel_rfl) (by kernel_rfl) (by kernel_rfl) (fun _ _ _ h => h) (Or.inl ⟨by rfl, ?hy4r3⟩) (by exact hHeld) ?_
            case hy4r3 => (intro w hSw; (try dsimp only at hSw); go_simp; try (with_reducible rfl))
            try simp only [Act.put, List.setIfInBounds_toArray, List.set_cons_zero, List.set_cons_succ]
            refine wpAnyH_take (i := 5) (oi := { dst := some 54, op := Op.nilCheck (Operand.tmp 53), type := 0, pos := "queue.go:60", after := #[{ on := 4, ground := Ground.data }], guard := none }) (v := ?v5r3) rfl (by kernel_rfl) (by kernel_rfl) (by kernel_rfl) (fun _ _ _ h => h) (Or.inl ⟨by rfl, ?hy5r3⟩) (by exact hHeld) ?_
            case hy5r3 => (intro w hSw; (try dsimp only at hSw); go_simp; try (with_reducible rfl))
            try simp only [Act.put, List.setIfInBounds_toArray, List.set_cons_zero, List.set_cons_succ]
            refine wpAnyH_take (i := 6) (oi := { dst := some 55, op := Op.fieldAddr 73 (Operand.tmp 54) 3, type := 0, pos := "queue.go:60", after := #[{ on := 5, ground := Ground.data }], guard := none }) (v := ?v6r3) rfl (by kernel_rfl) (by kernel_rfl) (by kernel_rfl) (fun _ _ _ h => h) (Or.inl ⟨by rfl, ?hy6r3⟩) (by exact hHeld) ?_
            case hy6r3 => (intro w hSw; (try dsimp only at hSw); go_simp; try (with_reducible rfl))
            try simp only [Act.put, List.setIfInBounds_toArray, List.set_cons_zero, List.set_cons_succ]
            refine wpAnyH_take (i := 7) (oi := { dst := some 56, op := Op.load 3 (Operand.tmp 55), type := 3, pos := "queue.go:60", after := #[{ on := 6, ground := Ground.data }], guard := none }) (v := ?v7r3) rfl (by kernel_rfl) (by kernel_rfl) (by kernel_rfl) (fun _ _ _ h => h) (Or.inl ⟨by rfl, ?hy7r3⟩) (by exact hHeld) ?_
            case hy7r3 => (intro w hSw; (try dsimp only at hSw); go_simp; try (with_reducible rfl))
            try simp only [Act.put, List.setIfInBounds_toArray, List.set_cons_zero, List.set_cons_succ]
            refine wpAnyH_take (i := 8) (oi := { dst := some 57, op := Op.build 45 #[(0, Operand.tmp 50), (1, Operand.tmp 52), (2, Operand.const (Value.bool true)), (3, Operand.tmp 56)], type := 45, pos := "queue.go:60", after := #[{ on := 1, ground := Ground.data }, { on := 3, ground := Ground.data }, { on := 7, ground := Ground.data }], guard := none }) (v := .agg PS.toArray) rfl (by kernel_rfl) (by kernel_rfl) (by kernel_rfl) (fun _ _ _ h => h) (Or.inl ⟨by rfl, ?hy8r3⟩) (by exact hHeld) ?_
            case hy8r3 => (intro w hSw; exact exec_build rfl (by simpa [Act.eval, Act.put] using unhide HB1) w)
            try simp only [Act.put, List.setIfInBounds_toArray, List.set_cons_zero, List.set_cons_succ]
            refine wpAnyH_ready (rs := [9]) (by kernel_rfl) (by simp) ?_
            refine AllReadyH.cons (o := { dst := some 11, op := Op.alloc 45, type := 0, pos := "queue.go:60", after := #[], guard := none }) rfl (fun K hK => ?_) AllReadyH.nil
            go_simp
            refine hK.out _ _ (S1 _) (fun _ => ?_)
            clear hK K
            try simp only [Act.put, List.setIfInBounds_toArray, List.set_cons_zero, List.set_cons_succ]
            refine wpAnyH_ready (rs := [10]) (by kernel_rfl) (by simp) ?_
            refine AllReadyH.cons (o := { dst := none, op := Op.store 45 (Operand.tmp 11) (Operand.tmp 57), type := 0, pos := "queue.go:60", after := #[{ on := 9, ground := Ground.data }, { on := 8, ground := Ground.data }, { on := 0, ground := Ground.phase }, { on := 1, ground := Ground.phase }, { on := 2, ground := Ground.phase }, { on := 3, ground := Ground.phase }, { on := 4, ground := Ground.phase }, { on := 5, ground := Ground.phase }, { on := 6, ground := Ground.phase }, { on := 7, ground := Ground.phase }, { on := 8, ground := Ground.phase }, { on := 9, ground := Ground.phase }], guard := none }) rfl (fun K hK => ?_) AllReadyH.nil
            refine step_storeQ rfl 45 (.tmp 11) (.tmp 57) rfl W.heap.size 0 PS.toArray (by first | rfl | simp [Act.eval, Act.put]) (by first | rfl | simp [Act.eval, Act.put]) (unhide HTH _ rfl) (by rw [List.size_toArray, (unhide HJ).2.2.2]; exact infoPkS) (all_oneCell_toArray (unhide H1C)) ?_
            refine hK.out _ _ (unhide HS2 _ rfl) (fun _ => ?_)
            clear hK K
            try simp only [Act.put]
            refine wpAnyH_done (by kernel_rfl) ?_ _
            generalize hV : World.setCells (World.alloc W _) W.heap.size 0 PS.toArray.toList = V
            obtain ⟨v1, v2⟩ := unhide HEND _ rfl V hV
            have RV : Hid (V.drew.rangeAt W.heap.size 0 PS) := v1
            have HBV := hide v2
            clear hV v1 v2 HEND HTH HB1 y0 y1 y3 g0 g1 g3 S0 S1 HS2
            go_upto_region 11 with fail
            refine wp_region_any (by kernel_rfl) ?_
            change wpAny _ _ _ _ _ _ _ (World.drew _)
            refine wpAny_take (i := 0) (oi := { dst := some 58, op := Op.move (Operand.tmp 8), type := 22, pos := "queue.go:61", after := #[], guard := none }) (v := .slice (some ⟨g, 0, none⟩) n c) rfl (by kernel_rfl) (by kernel_rfl) (by kernel_rfl) (fun _ _ _ h => h) (Or.inl ⟨by rfl, fun w => by go_simp⟩) ?_
            try simp only [Act.put, List.setIfInBounds_toArray, List.set_cons_zero, List.set_cons_succ]
            refine wpAny_take (i := 1) (oi := { dst := some 59, op := Op.move (Operand.tmp 10), type := 52, pos := "queue.go:61", after := #[{ on := 4, ground := Ground.gcOnly Departure.lateStores }], guard := none }) (v := (.slice a' n' c')) rfl (by kernel_rfl) (by kernel_rfl) (by kernel_rfl) (fun _ _ _ h => h) (Or.inl ⟨by rfl, fun w => by go_simp⟩) ?_
            try simp only [Act.put, List.setIfInBounds_toArray, List.set_cons_zero, List.set_cons_succ]
            refine wpAny_take (i := 4) (oi := { dst := some 4, op := Op.assign (Operand.tmp 58), type := 22, pos := "queue.go:61", after := #[{ on := 0, ground := Ground.data }, { on := 0, ground := Ground.phase }, { on := 1, ground := Ground.textOnly Departure.lateStores }, { on := 2, ground := Ground.textOnly Departure.lateStores }, { on := 3, ground := Ground.textOnly Departure.lateStores }], guard := none }) (v := .slice (some ⟨g, 0, none⟩) n c) rfl (by kernel_rfl) (by kernel_rfl) (by kernel_rfl) (fun _ _ _ h => h) (Or.inl ⟨by rfl, fun w => by go_simp⟩) ?_
            try simp only [Act.put, List.setIfInBounds_toArray, List.set_cons_zero, List.set_cons_succ]
            refine wpAny_take (i := 5) (oi := { dst := some 5, op := Op.assign (Operand.tmp 59), type := 52, pos := "queue.go:61", after := #[{ on := 1, ground := Ground.data }, { on := 4, ground := Ground.chain }, { on := 0, ground := Ground.phase }, { on := 1, ground := Ground.phase }, { on := 2, ground := Ground.textOnly Departure.lateStores }, { on := 3, ground := Ground.textOnly Departure.lateStores }, { on := 4, ground := Ground.phase }], guard := none }) (v := (.slice a' n' c')) rfl (by kernel_rfl) (by kernel_rfl) (by kernel_rfl) (fun _ _ _ h => h) (Or.inl ⟨by rfl, fun w => by go_simp⟩) ?_
            try simp only [Act.put, List.setIfInBounds_toArray, List.set_cons_zero, List.set_cons_succ]
            refine wpAny_ready (rs := [2]) (by kernel_rfl) (by simp) (AllReady.cons (o := { dst := some 60, op := Op.load 45 (Operand.tmp 11), type := 45, pos := "queue.go:61", after := #[{ on := 5, ground := Ground.gcOnly Departure.lateStores }], guard := none }) rfl (fun K hK => ?_) AllReady.nil)
            refine step_loadQ rfl 45 (.tmp 11) rfl W.heap.size 0 (by first | rfl | simp [Act.eval, Act.put]) PS _ (unhide RV) Try.underlying45 rfl (by rw [(unhide HJ).2.2.2]; exact infoPkS) ?_
            refine hK _ _ ?_
            clear hK K
            try simp only [Act.put, List.setIfInBounds_toArray, List.set_cons_zero, List.set_cons_succ]
            refine wpAny_ready (rs := [3]) (by kernel_rfl) (by simp) (AllReady.cons (o := { dst := some 61, op := Op.buildSlice 53 1 #[(0, Operand.tmp 60)], type := 53, pos := "queue.go:61", after := #[{ on := 2, ground := Ground.data }, { on := 5, ground := Ground.gcOnly Departure.lateStores }], guard := none }) rfl (fun K hK => ?_) AllReady.nil)
            refine step_buildM rfl 53 45 (.tmp 60) rfl PS (by first | rfl | simp [Act.eval, Act.put]) j0 (.agg pt0) Try.underlying53 (unhide HJ).1 (unhide HJ).2.1 (by rw [(unhide HJ).2.2.2]; exact (unhide HJ).2.2.1) (by rw [(unhide HJ).2.2.2]; decide) (by rw [(unhide HJ).2.2.2]; decide) ?_
            refine hK _ _ ?_
            clear hK K
            try simp only [Act.put, List.setIfInBounds_toArray, List.set_cons_zero, List.set_cons_succ]
            refine wpAny_ready (rs := [6]) (by kernel_rfl) (by simp) (AllReady.cons (o := { dst := some 6, op := Op.assign (Operand.tmp 61), type := 53, pos := "queue.go:61", after := #[{ on := 3, ground := Ground.data }, { on := 5, ground := Ground.chain }, { on := 0, ground := Ground.phase }, { on := 1, ground := Ground.phase }, { on := 2, ground := Ground.phase }, { on := 3, ground := Ground.phase }, { on := 4, ground := Ground.phase }, { on := 5, ground := Ground.phase }], guard := none }) rfl (fun K hK => ?_) AllReady.nil)
            go_simp
            refine hK _ _ ?_
            clear hK K
            try simp only [Act.put, List.setIfInBounds_toArray, List.set_cons_zero, List.set_cons_succ]
            refine wpAny_ready (rs := [7]) (by kernel_rfl) (by simp) (AllReady.cons (o := { dst := some 7, op := Op.assign (Operand.const (Value.int IntKind.i64 0)), type := 49, pos := "queue.go:61", after := #[{ on := 6, ground := Ground.chain }, { on := 0, ground := Ground.phase }, { on := 1, ground := Ground.phase }, { on := 2, ground := Ground.phase }, { on := 3, ground := Ground.phase }, { on := 4, ground := Ground.phase }, { on := 5, ground := Ground.phase }, { on := 6, ground := Ground.phase }], guard := none }) rfl (fun K hK => ?_) AllReady.nil)
            go_simp
            refine hK _ _ ?_
            clear hK K
            try simp only [Act.put, List.setIfInBounds_toArray, List.set_cons_zero, List.set_cons_succ]
            refine wpAny_done (by kernel_rfl) ?_ _
            go_wp2_with fail
            (try simp only [Exit.inBlock, Exit.then])
            refine bodyPost_ret (results_tmp4 rfl _ _ _) rfl ?_
            obtain ⟨q', T, tx, xs2, t1, t2, t3, t4⟩ := unhide HQQ
            have b8 : Below w6.heap.size w6 (V.drew.alloc (.cells PS.toArray 45)) := bw_tr (by have := (Below.refl w6.heap.size w6).drew; rw [← unhide HWD] at this; exact this) (bw_tr (unhide HBV).drew (bwA _ _))
            refine ⟨_, _, _, 0, rfl, bw_tr (unhide HBW6) b8, Or.inr ⟨rfl, (unhide HOK).1, (unhide HOK).2, k, L, q, (unhide HL).1, (unhide HL).2.1, Or.inr ⟨unhide HAK, q', T, xs2, tx, [fx00], t1, t3.abv (Abv.of b8), t4.abv (Abv.of b8), fun w9 h9 => ?_⟩⟩⟩
            have hk9 := heap_alloc_new V.drew (.cells PS.toArray 45)
            have hnb : w.heap.size ≤ V.drew.heap.size := (by have a1 := (unhide HBW6).size; have a2 := (unhide HBV).size; have a3 : W.heap.size = w6.heap.size := by rw [unhide HWD]; rfl
                                                             have a4 : V.drew.heap.size = V.heap.size := rfl
                                                             omega)
            have hk9' : w9.heap[V.drew.heap.size]? = some (.cells PS.toArray 45 (0, 0)) := (h9.block _ hnb (lt_of_blk hk9)).trans hk9
            refine pk_rd (p := ⟨p.tu, p.fr, true, q'.ex, fdK 0 0⟩) (blk_rngQ hk9' (fun j u hj => ?_)) (fdK_r _ 0 0) (fdK_s 0 0) rfl
            rw [← (unhide HNM).1, ← (unhide HNM).2, t2, ← unhide HPS] at hj
            rw [Nat.zero_add]
            simpa using hj
end Go.Proofs.Ytgiicendejgklaa
