/- Something is to be told to a peer (Push). mkQuP.py writes it. -/
import Derived.Test.YtgiicendejgklaaZ22
import Derived.Deep.RegionHeld3
namespace Go.Proofs.Ytgiicendejgklaa
open Go.RowKit Go.Maps
def PushQ (B : Nat) (w w' : World) (l : List Lk) (f : Fd) (peer : Int) (e : Ending) : Prop := ∃ v' er, e = .returned (.tuple #[v', .int .i64 er]) ∧ Below w.heap.size w w' ∧
  ((er = 1 ∧ ¬ (okLs l ∧ tellP f ∧ (0 ≤ peer ∧ peer < 4)) ∧ v' = .slice none 0 0) ∨
  (okLs l ∧ tellP f ∧ (0 ≤ peer ∧ peer < 4) ∧ ∃ k L q, Lnk l peer k L ∧ L[k]? = some q ∧ ((er = 3 ∧ (q.q.length = 1024 ∨ q.nx = 1099511627776) ∧ v' = .slice none 0 0) ∨ (er = 0 ∧ q.q.length ≠ 1024 ∧ q.nx ≠ 1099511627776 ∧ ∃ xs', OwL kLk B w' v' (L.set k { q with q := q.q ++ [f], nx := q.nx + 1 }) xs'))))
theorem infoFdS3 : (Try.prog.info? 43).map (·.size) = some 53 := by kernel_rfl
set_option maxRecDepth 100000 in
set_option maxHeartbeats 8000000 in
theorem push_any {w : World} {v : Value} {l : List Lk} {xs : List Lx} (h : RdL kLk w v l xs) (hl : l.length ≤ 1000000) {f : Fd} {y : Fx} (hf : FdR w f y) (hs : SmF f) (peer : Int) :
    Calls Try.prog 11 #[v, .int .i64 peer, .agg (fdC f y).toArray] w fun e w' => PushQ w.heap.size w w' l f peer e := by
  obtain ⟨j0, hj, hy0, hy1, hyb⟩ := info_parts infoKFeed
  obtain ⟨CS, hCS⟩ : ∃ z, z = fdC f y := ⟨_, rfl⟩
  rw [← hCS]
  have hcl : CS.length = 53 := by rw [hCS]; rfl
  obtain ⟨w0, hw0⟩ : ∃ w0, w0 = w.alloc (.cells CS.toArray 43) := ⟨_, rfl⟩
  have bl : Below w.heap.size w w0 := by rw [hw0]; exact bwA _ _
  have kk : w0.heap[w.heap.size]? = some (.cells CS.toArray 43 (0, 0)) := by rw [hw0]; exact heap_alloc_new _ _
  obtain ⟨r, hr⟩ := ex_bool (okLs l)
  have K1 : Hid (Calls Try.prog 22 #[v] w0 fun e w' => e = .returned (.bool r) ∧ Below w0.heap.size w0 w') := mayBeL_any (h.bw bl) (by omega) hr
  obtain ⟨tk, htk⟩ : ∃ z, z = decide (1 ≤ f.kd ∧ f.kd ≤ 6) := ⟨_, rfl⟩
  have K2 : Hid (∀ W, Calls Try.prog 23 #[.agg CS.toArray] W fun e w' => e = .returned (.bool tk) ∧ Below W.heap.size W w') := fun W => by rw [hCS, htk]; exact told_any f y
  obtain ⟨sv, hsv⟩ : ∃ z, z = decide (0 ≤ peer ∧ peer < 4) := ⟨_, rfl⟩
  have K3 : Hid (∀ W, Calls Try.prog 24 #[.int .i64 peer] W fun e w' => e = .returned (.bool sv) ∧ Below W.heap.size W w') := fun W => by rw [hsv]; exact isSrv_any peer
  have K4 : Hid (∀ W, Below w.heap.size w W → Calls Try.prog 25 #[v, .int .i64 peer] W fun e w' => ∃ g k n c, e = .returned (.tuple #[.slice (some ⟨g, 0, none⟩) n c, .pointer (some ⟨g, k * 5, none⟩)]) ∧ ∃ L xs', Hid (Lnk l peer k L ∧ OwL kLk W.heap.size w' (.slice (some ⟨g, 0, none⟩) n c) L xs' ∧ n = L.length ∧ Below W.heap.size W w')) := fun W hW => linked_any (h.bw hW) hl peer
  have KF : Hid (∀ W, Below w.heap.size w W → Calls Try.prog 26 #[.agg CS.toArray] W fun e w' => ∃ (y' : Fx) (cs' : List Value), e = .returned (.agg cs'.toArray) ∧ Hid (cs'.length = 53 ∧ (∀ u ∈ cs', u.oneCell' = true) ∧ OF W.heap.size w' f y' ∧ fdC f y' = cs') ∧ Below W.heap.size W w') := fun W hW => by
    rw [hCS]
    refine Calls.mono (frFeed_any (hf.bw hW) hs) ?_
    rintro e w' ⟨y', rfl, h1, h2⟩
    exact ⟨y', _, rfl, ⟨rfl, fd_one (h1.rd hs), h1, rfl⟩, h2⟩
  have RNG : Hid (∀ W, Below w0.heap.size w0 W → W.rangeAt w.heap.size 0 CS) := fun W hW => rng_bw (blk_rngQ kk (fun j u hu => by rw [Nat.zero_add]; exact hu)) hW
  have HI : Hid ((Try.prog.info? 43).map (·.size) = some CS.length) := by rw [hcl]; exact infoFdS3
  have HBL := hide bl
  have HW := hide hw0
  have HTS : Hid (tk = true ↔ tellP f) := by rw [htk]; exact decide_eq_true_iff
  have HSV : Hid (sv = true ↔ (0 ≤ peer ∧ peer < 4)) := by rw [hsv]; exact decide_eq_true_iff
  have HR := hide hr
  obtain ⟨a, cap, rfl⟩ := rdl_slice h
  obtain ⟨N, hN⟩ : ∃ N, N = l.length := ⟨_, rfl⟩
  rw [← hN] at K1 K4 ⊢
  clear h hl hf hs hCS hcl bl kk hw0 htk hsv hr hN
  go_enter Try.func11, Try.ntmps11
  go_upto_region 1 with fail
  rw [← unhide HW]
  clear HW
  go_wp2_with fail
  refine (unhide K1).mono ?_
  rintro e w1 ⟨rfl, b1⟩
  have HB1 := hide b1
  clear K1 b1
  cases r with
  | false =>
    have HF : Hid (¬ (okLs l ∧ tellP f ∧ (0 ≤ peer ∧ peer < 4))) := fun q => by have := (unhide HR).2 q.1; cases this
    have HB := hide (bw_tr (unhide HBL) (unhide HB1))
    clear K2 K3 K4 KF RNG HI
    go_wp2_with fail
    go_ret2
    exact ⟨_, 1, rfl, unhide HB, Or.inl ⟨rfl, unhide HF, rfl⟩⟩
  | true =>
    go_wp2_with (refine wpList_load_midG (by first | rfl | simp [Region.wanted, yielded]) 43 (.tmp 5) rfl w.heap.size 0 (by simp [Act.eval]) CS _ (unhide RNG w1 (unhide HB1)) Try.underlying43 rfl (unhide HI) ?_)
    refine (unhide K2 w1).mono ?_
    rintro e w2 ⟨rfl, b2⟩
    have HB2 := hide (bw_tr (unhide HB1) b2)
    clear K2 b2 HB1
    cases tk with
    | false =>
      have HF : Hid (¬ (okLs l ∧ tellP f ∧ (0 ≤ peer ∧ peer < 4))) := fun q => by have := (unhide HTS).2 q.2.1; cases this
      have HB := hide (bw_tr (unhide HBL) (unhide HB2))
      clear K3 K4 KF RNG HI
      go_wp2_with fail
      go_ret2
      exact ⟨_, 1, rfl, unhide HB, Or.inl ⟨rfl, unhide HF, rfl⟩⟩
    | true =>
      go_wp2_with fail
      refine (unhide K3 w2).mono ?_
      rintro e w3 ⟨rfl, b3⟩
      have HB3 := hide (bw_tr (unhide HB2) b3)
      clear K3 b3 HB2
      cases sv with
      | false =>
        have HF : Hid (¬ (okLs l ∧ tellP f ∧ (0 ≤ peer ∧ peer < 4))) := fun q => by have := (unhide HSV).2 q.2.2; cases this
        have HB := hide (bw_tr (unhide HBL) (unhide HB3))
        clear K4 KF RNG HI
        go_wp2_with fail
        go_ret2
        exact ⟨_, 1, rfl, unhide HB, Or.inl ⟨rfl, unhide HF, rfl⟩⟩
      | true =>
        have HOK : Hid (okLs l ∧ tellP f ∧ (0 ≤ peer ∧ peer < 4)) := ⟨(unhide HR).1 (by trivial), (unhide HTS).1 (by trivial), (unhide HSV).1 (by trivial)⟩
        have K44 := hide (unhide K4 w3 (bw_tr (unhide HBL) (unhide HB3)))
        clear K4
        go_wp2_with fail
        refine (unhide K44).mono ?_
        rintro e w4 ⟨g, k, n, c, rfl, L, xs', hF⟩
        obtain ⟨hLn, ho, hn, b4⟩ := unhide hF
        obtain ⟨q, hq, hqp⟩ := hLn.at
        have hkL := (List.getElem?_eq_some_iff.1 hq).1
        obtain ⟨x, hx⟩ : ∃ x, xs'[k]? = some x := ⟨_, List.getElem?_eq_getElem (by rw [ho.xl]; exact hkL)⟩
        have hok := hLn.ok (unhide HOK).1 (unhide HOK).2.2
        have hck : OL w3.heap.size w4 q x := ho.el k q _ hq hx
        obtain ⟨ac, cc, hcv⟩ := own_slice hck.q.row
        obtain ⟨NQ, hNQ⟩ : ∃ z, z = q.q.length := ⟨_, rfl⟩
        obtain ⟨nx, hnx⟩ : ∃ z, z = q.nx := ⟨_, rfl⟩
        have c1 : w4.cell? ⟨g, k * 5 + 1, none⟩ = some (.int .i64 nx) := by rw [hnx]; exact ho.lcell (g := g) rfl hq hx 1 _ rfl
        have c2 : w4.cell? ⟨g, k * 5 + 2, none⟩ = some (.slice ac NQ cc) := by rw [hNQ, ← hcv]; exact ho.lcell (g := g) rfl hq hx 2 _ rfl
        have hq1 : NQ ≤ 1024 := by rw [hNQ]; exact (hok k q hq).1.2.1.2.1
        have hq2 : nx ≤ 1099511627776 := by rw [hnx]; exact (hok k q hq).1.2.1.1
        have hq3 : (NQ : Int) ≤ nx := by rw [hNQ, hnx]; exact (hok k q hq).1.2.1.2.2.1
        have HL : Hid (Lnk l peer k L ∧ L[k]? = some q ∧ NQ = q.q.length ∧ nx = q.nx) := ⟨hLn, hq, hNQ, hnx⟩
        have HO : Hid (OwL kLk w3.heap.size w4 (.slice (some ⟨g, 0, none⟩) n c) L xs' ∧ xs'[k]? = some x ∧ x.qv = .slice ac NQ cc) := ⟨ho, hx, by rw [hNQ]; exact hcv⟩
        have HB4 : Hid (Below w3.heap.size w3 w4) := b4
        have HBW : Hid (Below w.heap.size w w4) := bw_tr (unhide HBL) (bw_tr (unhide HB3) b4)
        have H34 : Hid (w.heap.size ≤ w3.heap.size) := (bw_tr (unhide HBL) (unhide HB3)).size
        clear K44 hF hLn ho hn b4 hq hqp hkL hx hok hck hcv hNQ hnx
        by_cases hA : NQ = 1024
        · have HF : Hid (∃ k L q, Lnk l peer k L ∧ L[k]? = some q ∧ (q.q.length = 1024 ∨ q.nx = 1099511627776)) := ⟨k, L, q, (unhide HL).1, (unhide HL).2.1, Or.inl (by rw [← (unhide HL).2.2.1]; exact hA)⟩
          have a1 : ((NQ : Int) == 1024) = true := by simp; omega
          have a2 : decide ((NQ : Int) = 1024) = true := decide_eq_true (by omega)
          clear KF RNG HI HL HO
          go_wp2_with fail
          go_ret2
          obtain ⟨k_, L_, q_, g1, g2, g3⟩ := unhide HF
          exact ⟨_, 3, rfl, unhide HBW, Or.inr ⟨(unhide HOK).1, (unhide HOK).2.1, (unhide HOK).2.2, k_, L_, q_, g1, g2, Or.inl ⟨rfl, g3, rfl⟩⟩⟩
        · have a1 : ((NQ : Int) == 1024) = false := by simp; omega
          have a2 : decide ((NQ : Int) = 1024) = false := decide_eq_false (by omega)
          by_cases hB : nx = 1099511627776
          · have HF : Hid (∃ k L q, Lnk l peer k L ∧ L[k]? = some q ∧ (q.q.length = 1024 ∨ q.nx = 1099511627776)) := ⟨k, L, q, (unhide HL).1, (unhide HL).2.1, Or.inr (by rw [← (unhide HL).2.2.2]; exact hB)⟩
            have b1 : (nx == 1099511627776) = true := by simp; omega
            have b2 : decide (nx = 1099511627776) = true := decide_eq_true hB
            clear KF RNG HI HL HO
            go_wp2_with fail
            go_ret2
            obtain ⟨k_, L_, q_, g1, g2, g3⟩ := unhide HF
            exact ⟨_, 3, rfl, unhide HBW, Or.inr ⟨(unhide HOK).1, (unhide HOK).2.1, (unhide HOK).2.2, k_, L_, q_, g1, g2, Or.inl ⟨rfl, g3, rfl⟩⟩⟩
          · have b1 : (nx == 1099511627776) = false := by simp; omega
            have b2 : decide (nx = 1099511627776) = false := decide_eq_false hB
            have bd : Below w4.heap.size w4 w4.drew := (Below.refl _ _).drew
            have HOD : Hid (OwL kLk w3.heap.size w4.drew (.slice (some ⟨g, 0, none⟩) n c) L xs') := (unhide HO).1.bw bd
            have HBD : Hid (Below w.heap.size w w4.drew ∧ Below w0.heap.size w0 w4.drew) := ⟨(unhide HBW).drew, (bw_tr (unhide HB3) (unhide HB4)).drew⟩
            have HROW : Hid (∀ zz o, Below w4.drew.heap.size w4.drew zz → (zz.alloc o).ownsRow w3.heap.size 43 53 (.slice ac NQ cc) NQ (cellK kFd q.q x.qx)) := fun zz o hz => by
              have hck : OL w3.heap.size w4.drew q x := (unhide HOD).el k q _ (unhide HL).2.1 (unhide HO).2.1
              have := (OwL.bw hck.q (bw_tr hz (bwA zz o))).row
              rw [(unhide HO).2.2, ← (unhide HL).2.2.1] at this
              exact this
            have HBS : Hid (∀ zz o, Below w4.drew.heap.size w4.drew zz → w3.heap.size ≤ (zz.alloc o).heap.size) := fun zz o hz => Nat.le_trans (unhide HB4).size (bw_tr hz (bwA zz o)).size
            have HDN : Hid (∀ zz w5 v5 y' cs', Below w4.drew.heap.size w4.drew zz → OF w4.drew.heap.size zz f y' → fdC f y' = cs' → w5.ownsRow w3.heap.size 43 53 v5 (NQ + 1) (cellK kFd q.q x.qx ++ cs') → (zz.alloc (.cells cs'.toArray 43)).grownBy w5 (Value.slice ac NQ cc).ownBlock → (v5.ownBlock = (Value.slice ac NQ cc).ownBlock ∨ v5.ownBlock = some (zz.alloc (.cells cs'.toArray 43)).heap.size) →
                (∃ xs2, Hid (OwL kLk w3.heap.size (w5.setCell ⟨g, k * 5 + 2, none⟩ v5) (.slice (some ⟨g, 0, none⟩) n c) (L.set k { q with q := q.q ++ [f] }) xs2 ∧ Below w.heap.size w (w5.setCell ⟨g, k * 5 + 2, none⟩ v5))) ∧ w5.heap[g]? = w4.drew.heap[g]?) := fun zz w5 v5 y' cs' hz hO hcs h1 h2 h3 => by
              subst hcs
              rw [(unhide HL).2.2.1] at h1
              rw [← (unhide HO).2.2] at h2 h3
              obtain ⟨p1, p2, p3⟩ := (unhide HOD).qmore (unhide HL).2.1 (unhide HO).2.1 (bw_tr hz (bwA zz _)) (unhide HB4).size (OF.keep hO (fun z hq => (bwA zz _).block z (OF.lt hO z hq).2)) h1 h2 h3
              exact ⟨⟨_, p1, p2 _ _ (unhide H34) (unhide HBD).1⟩, p3⟩
            have HF : Hid (∀ j, w4.drew.frozen? ⟨g, j, none⟩ = false) := fun j => own_frozen (unhide HOD).row (g := g) rfl j
            have HFIN : Hid (∀ V xs2, OwL kLk w3.heap.size V (.slice (some ⟨g, 0, none⟩) n c) (L.set k { q with q := q.q ++ [f] }) xs2 → Below w.heap.size w V → V.cell? ⟨g, k * 5 + 1, none⟩ = some (.int .i64 nx) ∧ (∀ j, V.frozen? ⟨g, j, none⟩ = false) ∧ ∃ xs3, OwL kLk w.heap.size (V.setCell ⟨g, k * 5 + 1, none⟩ (.int .i64 (nx + 1))) (.slice (some ⟨g, 0, none⟩) n c) (L.set k { q with q := q.q ++ [f], nx := q.nx + 1 }) xs3 ∧ Below w.heap.size w (V.setCell ⟨g, k * 5 + 1, none⟩ (.int .i64 (nx + 1)))) := fun V xs2 hV hb => by
              have hkL := (List.getElem?_eq_some_iff.1 (unhide HL).2.1).1
              have hq2 : (L.set k { q with q := q.q ++ [f] })[k]? = some { q with q := q.q ++ [f] } := List.getElem?_set_self hkL
              obtain ⟨x2, hx2⟩ : ∃ x2, xs2[k]? = some x2 := ⟨_, List.getElem?_eq_getElem (by rw [hV.xl, List.length_set]; exact hkL)⟩
              refine ⟨?_, fun j => own_frozen hV.row (g := g) rfl j, ?_⟩
              · rw [(unhide HL).2.2.2]; exact hV.lcell (g := g) rfl hq2 hx2 1 _ rfl
              · have hp := hV.lput (g := g) (j := 1) (u := .int .i64 (nx + 1)) (b' := { q with q := q.q ++ [f], nx := q.nx + 1 }) rfl hq2 hx2 (by decide) (by rw [(unhide HL).2.2.2]; rfl) rfl rfl
                rw [List.set_set] at hp
                refine ⟨_, hp.mono (unhide H34), Below.setCell hb ?_ _⟩
                have := (World.ownsRow.lt hV.row g rfl).1
                have := unhide H34
                show w.heap.size ≤ g
                omega
            have x1 : w4.drew.cell? ⟨g, k * 5 + 2, none⟩ = some (.slice ac NQ cc) := c2
            have hNQ2 : NQ ≤ 1024 := hq1
            have HNC := hide hNQ2
            have HLS := hide (And.intro hA hB)
            go_upto_region 6 with fail
            clear c1 c2 hNQ2 hq1 hA hB a1 a2 b1 b2 bd
            refine wp_region_any (by kernel_rfl) ?_
            change wpAny _ _ _ _ _ _ _ (World.drew _)
            refine wpAny_take (i := 0) (oi := { dst := some 42, op := Op.move (Operand.tmp 9), type := 79, pos := "queue.go:27", after := #[], guard := none }) (v := .pointer (some ⟨g, k * 5, none⟩)) rfl (by kernel_rfl) (by kernel_rfl) (by kernel_rfl) (fun _ _ _ h => h) (Or.inl ⟨by rfl, fun w => by go_simp⟩) ?_
            try simp only [Act.put, List.setIfInBounds_toArray, List.set_cons_zero, List.set_cons_succ]
            refine wpAny_take (i := 1) (oi := { dst := some 43, op := Op.move (Operand.tmp 9), type := 79, pos := "queue.go:27", after := #[], guard := none }) (v := .pointer (some ⟨g, k * 5, none⟩)) rfl (by kernel_rfl) (by kernel_rfl) (by kernel_rfl) (fun _ _ _ h => h) (Or.inl ⟨by rfl, fun w => by go_simp⟩) ?_
            try simp only [Act.put, List.setIfInBounds_toArray, List.set_cons_zero, List.set_cons_succ]
            refine wpAny_take (i := 2) (oi := { dst := some 44, op := Op.nilCheck (Operand.tmp 43), type := 0, pos := "queue.go:27", after := #[{ on := 1, ground := Ground.data }], guard := none }) (v := .pointer (some ⟨g, k * 5, none⟩)) rfl (by kernel_rfl) (by kernel_rfl) (by kernel_rfl) (fun _ _ _ h => h) (Or.inl ⟨by rfl, fun w => by go_simp⟩) ?_
            try simp only [Act.put, List.setIfInBounds_toArray, List.set_cons_zero, List.set_cons_succ]
            refine wpAny_take (i := 3) (oi := { dst := some 45, op := Op.fieldAddr 73 (Operand.tmp 44) 2, type := 0, pos := "queue.go:27", after := #[{ on := 2, ground := Ground.data }], guard := none }) (v := .pointer (some ⟨g, k * 5 + 2, none⟩)) rfl (by kernel_rfl) (by kernel_rfl) (by kernel_rfl) (fun _ _ _ h => h) (Or.inl ⟨by rfl, fun w => by go_simp⟩) ?_
            try simp only [Act.put, List.setIfInBounds_toArray, List.set_cons_zero, List.set_cons_succ]
            refine wpAny_ready (rs := [4, 5]) (by kernel_rfl) (by simp) (AllReady.cons (o := { dst := some 46, op := Op.load 52 (Operand.tmp 45), type := 52, pos := "queue.go:27", after := #[{ on := 3, ground := Ground.data }], guard := none }) rfl (fun K hK => ?_) (AllReady.cons (o := { dst := some 47, op := Op.load 43 (Operand.tmp 5), type := 43, pos := "queue.go:27", after := #[], guard := none }) rfl (fun K hK => ?_) AllReady.nil))
            · go_simp
              refine hK _ _ ?_
              clear hK K
              try simp only [Act.put, List.setIfInBounds_toArray, List.set_cons_zero, List.set_cons_succ]
              refine wpAny_ready (rs := [5]) (by kernel_rfl) (by simp) (AllReady.cons (o := { dst := some 47, op := Op.load 43 (Operand.tmp 5), type := 43, pos := "queue.go:27", after := #[], guard := none }) rfl (fun K hK => ?_) AllReady.nil)
              refine step_loadQ rfl 43 (.tmp 5) rfl w.heap.size 0 (by first | rfl | simp [Act.eval, Act.put]) CS _ (unhide RNG _ (unhide HBD).2) Try.underlying43 rfl (unhide HI) ?_
              refine hK _ _ ?_
              clear hK K
              try simp only [Act.put, List.setIfInBounds_toArray, List.set_cons_zero, List.set_cons_succ]
              refine wpAny_ready (rs := [6]) (by kernel_rfl) (by simp) (AllReady.cons (o := { dst := some 48, op := Op.call { callee := Callee.value (Operand.func 26), args := #[Operand.tmp 47], argTypes := #[43] }, type := 43, pos := "queue.go:27", after := #[{ on := 5, ground := Ground.data }], guard := none }) rfl (fun K hK => ?_) AllReady.nil)
              go_simp
              refine (unhide KF w4.drew (unhide HBD).1).mono ?_
              rintro e_ zz ⟨y', cs', rfl, hO, b3⟩
              have HX := hide (And.intro hO b3)
              have y1 : zz.cell? ⟨g, k * 5 + 2, none⟩ = some (.slice ac NQ cc) := (by rw [b3.cell (lt_of_cell x1)]; exact x1)
              have y2 : ∀ o, (zz.alloc o).cell? ⟨g, k * 5 + 2, none⟩ = some (.slice ac NQ cc) := (fun o => (by rw [(bwA zz o).cell (lt_of_cell y1)]; exact y1))
              have y3 : g < zz.heap.size := lt_of_cell y1
              have y4 : ¬ g = zz.heap.size := (by omega)
              clear hO b3
              go_wp2_with fail
              try simp only [Act.put, List.setIfInBounds_toArray, List.set_cons_zero, List.set_cons_succ]
              refine wpAny_ready (rs := [7]) (by kernel_rfl) (by simp) (AllReady.cons (o := { dst := some 49, op := Op.buildSlice 52 1 #[(0, Operand.tmp 48)], type := 52, pos := "queue.go:27", after := #[{ on := 6, ground := Ground.data }], guard := none }) rfl (fun K hK => ?_) AllReady.nil)
              refine step_buildM rfl 52 43 (.tmp 48) rfl cs' (by first | rfl | simp [Act.eval, Act.put]) j0 (.agg fd0) Try.underlying52 hj hy0 (by rw [(unhide (unhide HX).1).1]; exact hy1) (by rw [(unhide (unhide HX).1).1]; decide) (by rw [(unhide (unhide HX).1).1]; decide) ?_
              refine hK _ _ ?_
              clear hK K
              try simp only [Act.put, List.setIfInBounds_toArray, List.set_cons_zero, List.set_cons_succ]
              refine wpAny_ready (rs := [8]) (by kernel_rfl) (by simp) (AllReady.cons (o := { dst := some 50, op := Op.call { callee := Callee.builtin Builtin.append, args := #[Operand.tmp 46, Operand.tmp 49], argTypes := #[52, 52] }, type := 52, pos := "queue.go:27", after := #[{ on := 4, ground := Ground.data }, { on := 7, ground := Ground.data }, { on := 6, ground := Ground.chain }], guard := none }) rfl (fun K hK => ?_) AllReady.nil)
              refine step_appM rfl (.tmp 46) (.tmp 49) 52 rfl w3.heap.size 43 j0 (.agg fd0) 53 600 Try.underlying52 hj hy0 hy1 hyb rfl (by decide) (.slice ac NQ cc) NQ (cellK kFd q.q x.qx) (by first | rfl | simp [Act.eval, Act.put]) (unhide HROW zz _ (unhide HX).2) ⟨zz.heap.size, 0, none⟩ 1 1 cs' (by first | rfl | simp [Act.eval, Act.put]) (by rw [(unhide (unhide HX).1).1]) (cells_newM zz cs' 43) (unhide (unhide HX).1).2.1 (by have := unhide HNC; unfold maxLen; omega) (by have := unhide HNC; omega) (unhide HBS zz _ (unhide HX).2) ?_
              intro v5 w5 hr5 hg5 hv5
              obtain ⟨a5_, c5_, e5_⟩ := own_slice hr5
              have DN := (unhide HDN zz w5 v5 _ _ (unhide HX).2 (unhide (unhide HX).1).2.2.1 (unhide (unhide HX).1).2.2.2 hr5 hg5 hv5)
              have z1 : w5.cell? ⟨g, k * 5 + 2, none⟩ = some (.slice ac NQ cc) := (by rw [World.cell?_of_block (w := w4.drew) DN.2]; exact x1)
              have fz : ∀ j, w5.frozen? ⟨g, j, none⟩ = false := (fun j => (by rw [World.frozen?_of_block (w := w4.drew) DN.2]; exact unhide HF j))
              have HRR := hide DN.1
              clear DN hr5 hg5 hv5
              subst e5_
              refine hK _ _ ?_
              clear hK K
              try simp only [Act.put, List.setIfInBounds_toArray, List.set_cons_zero, List.set_cons_succ]
              refine wpAny_take (i := 9) (oi := { dst := some 51, op := Op.nilCheck (Operand.tmp 42), type := 0, pos := "queue.go:27", after := #[{ on := 0, ground := Ground.data }, { on := 0, ground := Ground.phase }, { on := 1, ground := Ground.phase }, { on := 2, ground := Ground.phase }, { on := 3, ground := Ground.phase }, { on := 4, ground := Ground.phase }, { on := 5, ground := Ground.phase }, { on := 6, ground := Ground.phase }, { on := 7, ground := Ground.phase }, { on := 8, ground := Ground.phase }], guard := none }) (v := .pointer (some ⟨g, k * 5, none⟩)) rfl (by kernel_rfl) (by kernel_rfl) (by kernel_rfl) (fun _ _ _ h => h) (Or.inl ⟨by rfl, fun w => by go_simp⟩) ?_
              try simp only [Act.put, List.setIfInBounds_toArray, List.set_cons_zero, List.set_cons_succ]
              refine wpAny_take (i := 10) (oi := { dst := some 52, op := Op.fieldAddr 73 (Operand.tmp 51) 2, type := 0, pos := "queue.go:27", after := #[{ on := 9, ground := Ground.data }, { on := 0, ground := Ground.phase }, { on := 1, ground := Ground.phase }, { on := 2, ground := Ground.phase }, { on := 3, ground := Ground.phase }, { on := 4, ground := Ground.phase }, { on := 5, ground := Ground.phase }, { on := 6, ground := Ground.phase }, { on := 7, ground := Ground.phase }, { on := 8, ground := Ground.phase }], guard := none }) (v := .pointer (some ⟨g, k * 5 + 2, none⟩)) rfl (by kernel_rfl) (by kernel_rfl) (by kernel_rfl) (fun _ _ _ h => h) (Or.inl ⟨by rfl, fun w => by go_simp⟩) ?_
              try simp only [Act.put, List.setIfInBounds_toArray, List.set_cons_zero, List.set_cons_succ]
              refine wpAny_ready (rs := [11]) (by kernel_rfl) (by simp) (AllReady.cons (o := { dst := none, op := Op.store 52 (Operand.tmp 52) (Operand.tmp 50), type := 0, pos := "queue.go:27", after := #[{ on := 10, ground := Ground.data }, { on := 8, ground := Ground.data }, { on := 8, ground := Ground.chain }, { on := 0, ground := Ground.phase }, { on := 1, ground := Ground.phase }, { on := 2, ground := Ground.phase }, { on := 3, ground := Ground.phase }, { on := 4, ground := Ground.phase }, { on := 5, ground := Ground.phase }, { on := 6, ground := Ground.phase }, { on := 7, ground := Ground.phase }, { on := 8, ground := Ground.phase }], guard := none }) rfl (fun K hK => ?_) AllReady.nil)
              go_simp
              refine hK _ _ ?_
              clear hK K
              try simp only [Act.put]
              refine wpAny_done (by kernel_rfl) ?_ _
              obtain ⟨xs2, HR2⟩ := unhide HRR
              obtain ⟨V, hV⟩ : ∃ V, V = w5.setCell ⟨g, k * 5 + 2, none⟩ (.slice a5_ (NQ + 1) c5_) := ⟨_, rfl⟩
              rw [← hV] at HR2
              obtain ⟨u1, uf, xs3, hfin⟩ := unhide HFIN V xs2 (unhide HR2).1 (unhide HR2).2
              have HFF := hide hfin
              have HV := hide hV
              clear hfin hV HR2 HRR z1 fz HX HFIN HDN HBS HROW HF HI RNG KF HOD x1 y1 y2 y3 y4
              go_upto_region 7 with fail
              rw [← unhide HV]
              clear HV
              go_wp2_with fail
              go_ret2
              exact ⟨_, 0, rfl, (unhide HFF).2, Or.inr ⟨(unhide HOK).1, (unhide HOK).2.1, (unhide HOK).2.2, k, L, q, (unhide HL).1, (unhide HL).2.1, Or.inr ⟨rfl, by rw [← (unhide HL).2.2.1]; exact (unhide HLS).1, by rw [← (unhide HL).2.2.2]; exact (unhide HLS).2, xs3, (unhide HFF).1⟩⟩⟩
            · refine step_loadQ rfl 43 (.tmp 5) rfl w.heap.size 0 (by first | rfl | simp [Act.eval, Act.put]) CS _ (unhide RNG _ (unhide HBD).2) Try.underlying43 rfl (unhide HI) ?_
              refine hK _ _ ?_
              clear hK K
              try simp only [Act.put, List.setIfInBounds_toArray, List.set_cons_zero, List.set_cons_succ]
              refine wpAny_ready (rs := [4, 6]) (by kernel_rfl) (by simp) (AllReady.cons (o := { dst := some 46, op := Op.load 52 (Operand.tmp 45), type := 52, pos := "queue.go:27", after := #[{ on := 3, ground := Ground.data }], guard := none }) rfl (fun K hK => ?_) (AllReady.cons (o := { dst := some 48, op := Op.call { callee := Callee.value (Operand.func 26), args := #[Operand.tmp 47], argTypes := #[43] }, type := 43, pos := "queue.go:27", after := #[{ on := 5, ground := Ground.data }], guard := none }) rfl (fun K hK => ?_) AllReady.nil))
              · go_simp
                refine hK _ _ ?_
                clear hK K
                try simp only [Act.put, List.setIfInBounds_toArray, List.set_cons_zero, List.set_cons_succ]
                refine wpAny_ready (rs := [6]) (by kernel_rfl) (by simp) (AllReady.cons (o := { dst := some 48, op := Op.call { callee := Callee.value (Operand.func 26), args := #[Operand.tmp 47], argTypes := #[43] }, type := 43, pos := "queue.go:27", after := #[{ on := 5, ground := Ground.data }], guard := none }) rfl (fun K hK => ?_) AllReady.nil)
                go_simp
                refine (unhide KF w4.drew (unhide HBD).1).mono ?_
                rintro e_ zz ⟨y', cs', rfl, hO, b3⟩
                have HX := hide (And.intro hO b3)
                have y1 : zz.cell? ⟨g, k * 5 + 2, none⟩ = some (.slice ac NQ cc) := (by rw [b3.cell (lt_of_cell x1)]; exact x1)
                have y2 : ∀ o, (zz.alloc o).cell? ⟨g, k * 5 + 2, none⟩ = some (.slice ac NQ cc) := (fun o => (by rw [(bwA zz o).cell (lt_of_cell y1)]; exact y1))
                have y3 : g < zz.heap.size := lt_of_cell y1
                have y4 : ¬ g = zz.heap.size := (by omega)
                clear hO b3
                go_wp2_with fail
                try simp only [Act.put, List.setIfInBounds_toArray, List.set_cons_zero, List.set_cons_succ]
                refine wpAny_ready (rs := [7]) (by kernel_rfl) (by simp) (AllReady.cons (o := { dst := some 49, op := Op.buildSlice 52 1 #[(0, Operand.tmp 48)], type := 52, pos := "queue.go:27", after := #[{ on := 6, ground := Ground.data }], guard := none }) rfl (fun K hK => ?_) AllReady.nil)
                refine step_buildM rfl 52 43 (.tmp 48) rfl cs' (by first | rfl | simp [Act.eval, Act.put]) j0 (.agg fd0) Try.underlying52 hj hy0 (by rw [(unhide (unhide HX).1).1]; exact hy1) (by rw [(unhide (unhide HX).1).1]; decide) (by rw [(unhide (unhide HX).1).1]; decide) ?_
                refine hK _ _ ?_
                clear hK K
                try simp only [Act.put, List.setIfInBounds_toArray, List.set_cons_zero, List.set_cons_succ]
                refine wpAny_ready (rs := [8]) (by kernel_rfl) (by simp) (AllReady.cons (o := { dst := some 50, op := Op.call { callee := Callee.builtin Builtin.append, args := #[Operand.tmp 46, Operand.tmp 49], argTypes := #[52, 52] }, type := 52, pos := "queue.go:27", after := #[{ on := 4, ground := Ground.data }, { on := 7, ground := Ground.data }, { on := 6, ground := Ground.chain }], guard := none }) rfl (fun K hK => ?_) AllReady.nil)
                refine step_appM rfl (.tmp 46) (.tmp 49) 52 rfl w3.heap.size 43 j0 (.agg fd0) 53 600 Try.underlying52 hj hy0 hy1 hyb rfl (by decide) (.slice ac NQ cc) NQ (cellK kFd q.q x.qx) (by first | rfl | simp [Act.eval, Act.put]) (unhide HROW zz _ (unhide HX).2) ⟨zz.heap.size, 0, none⟩ 1 1 cs' (by first | rfl | simp [Act.eval, Act.put]) (by rw [(unhide (unhide HX).1).1]) (cells_newM zz cs' 43) (unhide (unhide HX).1).2.1 (by have := unhide HNC; unfold maxLen; omega) (by have := unhide HNC; omega) (unhide HBS zz _ (unhide HX).2) ?_
                intro v5 w5 hr5 hg5 hv5
                obtain ⟨a5_, c5_, e5_⟩ := own_slice hr5
                have DN := (unhide HDN zz w5 v5 _ _ (unhide HX).2 (unhide (unhide HX).1).2.2.1 (unhide (unhide HX).1).2.2.2 hr5 hg5 hv5)
                have z1 : w5.cell? ⟨g, k * 5 + 2, none⟩ = some (.slice ac NQ cc) := (by rw [World.cell?_of_block (w := w4.drew) DN.2]; exact x1)
                have fz : ∀ j, w5.frozen? ⟨g, j, none⟩ = false := (fun j => (by rw [World.frozen?_of_block (w := w4.drew) DN.2]; exact unhide HF j))
                have HRR := hide DN.1
                clear DN hr5 hg5 hv5
                subst e5_
                refine hK _ _ ?_
                clear hK K
                try simp only [Act.put, List.setIfInBounds_toArray, List.set_cons_zero, List.set_cons_succ]
                refine wpAny_take (i := 9) (oi := { dst := some 51, op := Op.nilCheck (Operand.tmp 42), type := 0, pos := "queue.go:27", after := #[{ on := 0, ground := Ground.data }, { on := 0, ground := Ground.phase }, { on := 1, ground := Ground.phase }, { on := 2, ground := Ground.phase }, { on := 3, ground := Ground.phase }, { on := 4, ground := Ground.phase }, { on := 5, ground := Ground.phase }, { on := 6, ground := Ground.phase }, { on := 7, ground := Ground.phase }, { on := 8, ground := Ground.phase }], guard := none }) (v := .pointer (some ⟨g, k * 5, none⟩)) rfl (by kernel_rfl) (by kernel_rfl) (by kernel_rfl) (fun _ _ _ h => h) (Or.inl ⟨by rfl, fun w => by go_simp⟩) ?_
                try simp only [Act.put, List.setIfInBounds_toArray, List.set_cons_zero, List.set_cons_succ]
                refine wpAny_take (i := 10) (oi := { dst := some 52, op := Op.fieldAddr 73 (Operand.tmp 51) 2, type := 0, pos := "queue.go:27", after := #[{ on := 9, ground := Ground.data }, { on := 0, ground := Ground.phase }, { on := 1, ground := Ground.phase }, { on := 2, ground := Ground.phase }, { on := 3, ground := Ground.phase }, { on := 4, ground := Ground.phase }, { on := 5, ground := Ground.phase }, { on := 6, ground := Ground.phase }, { on := 7, ground := Ground.phase }, { on := 8, ground := Ground.phase }], guard := none }) (v := .pointer (some ⟨g, k * 5 + 2, none⟩)) rfl (by kernel_rfl) (by kernel_rfl) (by kernel_rfl) (fun _ _ _ h => h) (Or.inl ⟨by rfl, fun w => by go_simp⟩) ?_
                try simp only [Act.put, List.setIfInBounds_toArray, List.set_cons_zero, List.set_cons_succ]
                refine wpAny_ready (rs := [11]) (by kernel_rfl) (by simp) (AllReady.cons (o := { dst := none, op := Op.store 52 (Operand.tmp 52) (Operand.tmp 50), type := 0, pos := "queue.go:27", after := #[{ on := 10, ground := Ground.data }, { on := 8, ground := Ground.data }, { on := 8, ground := Ground.chain }, { on := 0, ground := Ground.phase }, { on := 1, ground := Ground.phase }, { on := 2, ground := Ground.phase }, { on := 3, ground := Ground.phase }, { on := 4, ground := Ground.phase }, { on := 5, ground := Ground.phase }, { on := 6, ground := Ground.phase }, { on := 7, ground := Ground.phase }, { on := 8, ground := Ground.phase }], guard := none }) rfl (fun K hK => ?_) AllReady.nil)
                go_simp
                refine hK _ _ ?_
                clear hK K
                try simp only [Act.put]
                refine wpAny_done (by kernel_rfl) ?_ _
                obtain ⟨xs2, HR2⟩ := unhide HRR
                obtain ⟨V, hV⟩ : ∃ V, V = w5.setCell ⟨g, k * 5 + 2, none⟩ (.slice a5_ (NQ + 1) c5_) := ⟨_, rfl⟩
                rw [← hV] at HR2
                obtain ⟨u1, uf, xs3, hfin⟩ := unhide HFIN V xs2 (unhide HR2).1 (unhide HR2).2
                have HFF := hide hfin
                have HV := hide hV
                clear hfin hV HR2 HRR z1 fz HX HFIN HDN HBS HROW HF HI RNG KF HOD x1 y1 y2 y3 y4
                go_upto_region 7 with fail
                rw [← unhide HV]
                clear HV
                go_wp2_with fail
                go_ret2
                exact ⟨_, 0, rfl, (unhide HFF).2, Or.inr ⟨(unhide HOK).1, (unhide HOK).2.1, (unhide HOK).2.2, k, L, q, (unhide HL).1, (unhide HL).2.1, Or.inr ⟨rfl, by rw [← (unhide HL).2.2.1]; exact (unhide HLS).1, by rw [← (unhide HL).2.2.2]; exact (unhide HLS).2, xs3, (unhide HFF).1⟩⟩⟩
              · go_simp
                refine (unhide KF w4.drew (unhide HBD).1).mono ?_
                rintro e_ zz ⟨y', cs', rfl, hO, b3⟩
                have HX := hide (And.intro hO b3)
                have y1 : zz.cell? ⟨g, k * 5 + 2, none⟩ = some (.slice ac NQ cc) := (by rw [b3.cell (lt_of_cell x1)]; exact x1)
                have y2 : ∀ o, (zz.alloc o).cell? ⟨g, k * 5 + 2, none⟩ = some (.slice ac NQ cc) := (fun o => (by rw [(bwA zz o).cell (lt_of_cell y1)]; exact y1))
                have y3 : g < zz.heap.size := lt_of_cell y1
                have y4 : ¬ g = zz.heap.size := (by omega)
                clear hO b3
                go_wp2_with fail
                try simp only [Act.put, List.setIfInBounds_toArray, List.set_cons_zero, List.set_cons_succ]
                refine wpAny_ready (rs := [4, 7]) (by kernel_rfl) (by simp) (AllReady.cons (o := { dst := some 46, op := Op.load 52 (Operand.tmp 45), type := 52, pos := "queue.go:27", after := #[{ on := 3, ground := Ground.data }], guard := none }) rfl (fun K hK => ?_) (AllReady.cons (o := { dst := some 49, op := Op.buildSlice 52 1 #[(0, Operand.tmp 48)], type := 52, pos := "queue.go:27", after := #[{ on := 6, ground := Ground.data }], guard := none }) rfl (fun K hK => ?_) AllReady.nil))
                · go_simp
                  refine hK _ _ ?_
                  clear hK K
                  try simp only [Act.put, List.setIfInBounds_toArray, List.set_cons_zero, List.set_cons_succ]
                  refine wpAny_ready (rs := [7]) (by kernel_rfl) (by simp) (AllReady.cons (o := { dst := some 49, op := Op.buildSlice 52 1 #[(0, Operand.tmp 48)], type := 52, pos := "queue.go:27", after := #[{ on := 6, ground := Ground.data }], guard := none }) rfl (fun K hK => ?_) AllReady.nil)
                  refine step_buildM rfl 52 43 (.tmp 48) rfl cs' (by first | rfl | simp [Act.eval, Act.put]) j0 (.agg fd0) Try.underlying52 hj hy0 (by rw [(unhide (unhide HX).1).1]; exact hy1) (by rw [(unhide (unhide HX).1).1]; decide) (by rw [(unhide (unhide HX).1).1]; decide) ?_
                  refine hK _ _ ?_
                  clear hK K
                  try simp only [Act.put, List.setIfInBounds_toArray, List.set_cons_zero, List.set_cons_succ]
                  refine wpAny_ready (rs := [8]) (by kernel_rfl) (by simp) (AllReady.cons (o := { dst := some 50, op := Op.call { callee := Callee.builtin Builtin.append, args := #[Operand.tmp 46, Operand.tmp 49], argTypes := #[52, 52] }, type := 52, pos := "queue.go:27", after := #[{ on := 4, ground := Ground.data }, { on := 7, ground := Ground.data }, { on := 6, ground := Ground.chain }], guard := none }) rfl (fun K hK => ?_) AllReady.nil)
                  refine step_appM rfl (.tmp 46) (.tmp 49) 52 rfl w3.heap.size 43 j0 (.agg fd0) 53 600 Try.underlying52 hj hy0 hy1 hyb rfl (by decide) (.slice ac NQ cc) NQ (cellK kFd q.q x.qx) (by first | rfl | simp [Act.eval, Act.put]) (unhide HROW zz _ (unhide HX).2) ⟨zz.heap.size, 0, none⟩ 1 1 cs' (by first | rfl | simp [Act.eval, Act.put]) (by rw [(unhide (unhide HX).1).1]) (cells_newM zz cs' 43) (unhide (unhide HX).1).2.1 (by have := unhide HNC; unfold maxLen; omega) (by have := unhide HNC; omega) (unhide HBS zz _ (unhide HX).2) ?_
                  intro v5 w5 hr5 hg5 hv5
                  obtain ⟨a5_, c5_, e5_⟩ := own_slice hr5
                  have DN := (unhide HDN zz w5 v5 _ _ (unhide HX).2 (unhide (unhide HX).1).2.2.1 (unhide (unhide HX).1).2.2.2 hr5 hg5 hv5)
                  have z1 : w5.cell? ⟨g, k * 5 + 2, none⟩ = some (.slice ac NQ cc) := (by rw [World.cell?_of_block (w := w4.drew) DN.2]; exact x1)
                  have fz : ∀ j, w5.frozen? ⟨g, j, none⟩ = false := (fun j => (by rw [World.frozen?_of_block (w := w4.drew) DN.2]; exact unhide HF j))
                  have HRR := hide DN.1
                  clear DN hr5 hg5 hv5
                  subst e5_
                  refine hK _ _ ?_
                  clear hK K
                  try simp only [Act.put, List.setIfInBounds_toArray, List.set_cons_zero, List.set_cons_succ]
                  refine wpAny_take (i := 9) (oi := { dst := some 51, op := Op.nilCheck (Operand.tmp 42), type := 0, pos := "queue.go:27", after := #[{ on := 0, ground := Ground.data }, { on := 0, ground := Ground.phase }, { on := 1, ground := Ground.phase }, { on := 2, ground := Ground.phase }, { on := 3, ground := Ground.phase }, { on := 4, ground := Ground.phase }, { on := 5, ground := Ground.phase }, { on := 6, ground := Ground.phase }, { on := 7, ground := Ground.phase }, { on := 8, ground := Ground.phase }], guard := none }) (v := .pointer (some ⟨g, k * 5, none⟩)) rfl (by kernel_rfl) (by kernel_rfl) (by kernel_rfl) (fun _ _ _ h => h) (Or.inl ⟨by rfl, fun w => by go_simp⟩) ?_
                  try simp only [Act.put, List.setIfInBounds_toArray, List.set_cons_zero, List.set_cons_succ]
                  refine wpAny_take (i := 10) (oi := { dst := some 52, op := Op.fieldAddr 73 (Operand.tmp 51) 2, type := 0, pos := "queue.go:27", after := #[{ on := 9, ground := Ground.data }, { on := 0, ground := Ground.phase }, { on := 1, ground := Ground.phase }, { on := 2, ground := Ground.phase }, { on := 3, ground := Ground.phase }, { on := 4, ground := Ground.phase }, { on := 5, ground := Ground.phase }, { on := 6, ground := Ground.phase }, { on := 7, ground := Ground.phase }, { on := 8, ground := Ground.phase }], guard := none }) (v := .pointer (some ⟨g, k * 5 + 2, none⟩)) rfl (by kernel_rfl) (by kernel_rfl) (by kernel_rfl) (fun _ _ _ h => h) (Or.inl ⟨by rfl, fun w => by go_simp⟩) ?_
                  try simp only [Act.put, List.setIfInBounds_toArray, List.set_cons_zero, List.set_cons_succ]
                  refine wpAny_ready (rs := [11]) (by kernel_rfl) (by simp) (AllReady.cons (o := { dst := none, op := Op.store 52 (Operand.tmp 52) (Operand.tmp 50), type := 0, pos := "queue.go:27", after := #[{ on := 10, ground := Ground.data }, { on := 8, ground := Ground.data }, { on := 8, ground := Ground.chain }, { on := 0, ground := Ground.phase }, { on := 1, ground := Ground.phase }, { on := 2, ground := Ground.phase }, { on := 3, ground := Ground.phase }, { on := 4, ground := Ground.phase }, { on := 5, ground := Ground.phase }, { on := 6, ground := Ground.phase }, { on := 7, ground := Ground.phase }, { on := 8, ground := Ground.phase }], guard := none }) rfl (fun K hK => ?_) AllReady.nil)
                  go_simp
                  refine hK _ _ ?_
                  clear hK K
                  try simp only [Act.put]
                  refine wpAny_done (by kernel_rfl) ?_ _
                  obtain ⟨xs2, HR2⟩ := unhide HRR
                  obtain ⟨V, hV⟩ : ∃ V, V = w5.setCell ⟨g, k * 5 + 2, none⟩ (.slice a5_ (NQ + 1) c5_) := ⟨_, rfl⟩
                  rw [← hV] at HR2
                  obtain ⟨u1, uf, xs3, hfin⟩ := unhide HFIN V xs2 (unhide HR2).1 (unhide HR2).2
                  have HFF := hide hfin
                  have HV := hide hV
                  clear hfin hV HR2 HRR z1 fz HX HFIN HDN HBS HROW HF HI RNG KF HOD x1 y1 y2 y3 y4
                  go_upto_region 7 with fail
                  rw [← unhide HV]
                  clear HV
                  go_wp2_with fail
                  go_ret2
                  exact ⟨_, 0, rfl, (unhide HFF).2, Or.inr ⟨(unhide HOK).1, (unhide HOK).2.1, (unhide HOK).2.2, k, L, q, (unhide HL).1, (unhide HL).2.1, Or.inr ⟨rfl, by rw [← (unhide HL).2.2.1]; exact (unhide HLS).1, by rw [← (unhide HL).2.2.2]; exact (unhide HLS).2, xs3, (unhide HFF).1⟩⟩⟩
                · refine step_buildM rfl 52 43 (.tmp 48) rfl cs' (by first | rfl | simp [Act.eval, Act.put]) j0 (.agg fd0) Try.underlying52 hj hy0 (by rw [(unhide (unhide HX).1).1]; exact hy1) (by rw [(unhide (unhide HX).1).1]; decide) (by rw [(unhide (unhide HX).1).1]; decide) ?_
                  refine hK _ _ ?_
                  clear hK K
                  try simp only [Act.put, List.setIfInBounds_toArray, List.set_cons_zero, List.set_cons_succ]
                  refine wpAny_ready (rs := [4]) (by kernel_rfl) (by simp) (AllReady.cons (o := { dst := some 46, op := Op.load 52 (Operand.tmp 45), type := 52, pos := "queue.go:27", after := #[{ on := 3, ground := Ground.data }], guard := none }) rfl (fun K hK => ?_) AllReady.nil)
                  go_simp
                  refine hK _ _ ?_
                  clear hK K
                  try simp only [Act.put, List.setIfInBounds_toArray, List.set_cons_zero, List.set_cons_succ]
                  refine wpAny_ready (rs := [8]) (by kernel_rfl) (by simp) (AllReady.cons (o := { dst := some 50, op := Op.call { callee := Callee.builtin Builtin.append, args := #[Operand.tmp 46, Operand.tmp 49], argTypes := #[52, 52] }, type := 52, pos := "queue.go:27", after := #[{ on := 4, ground := Ground.data }, { on := 7, ground := Ground.data }, { on := 6, ground := Ground.chain }], guard := none }) rfl (fun K hK => ?_) AllReady.nil)
                  refine step_appM rfl (.tmp 46) (.tmp 49) 52 rfl w3.heap.size 43 j0 (.agg fd0) 53 600 Try.underlying52 hj hy0 hy1 hyb rfl (by decide) (.slice ac NQ cc) NQ (cellK kFd q.q x.qx) (by first | rfl | simp [Act.eval, Act.put]) (unhide HROW zz _ (unhide HX).2) ⟨zz.heap.size, 0, none⟩ 1 1 cs' (by first | rfl | simp [Act.eval, Act.put]) (by rw [(unhide (unhide HX).1).1]) (cells_newM zz cs' 43) (unhide (unhide HX).1).2.1 (by have := unhide HNC; unfold maxLen; omega) (by have := unhide HNC; omega) (unhide HBS zz _ (unhide HX).2) ?_
                  intro v5 w5 hr5 hg5 hv5
                  obtain ⟨a5_, c5_, e5_⟩ := own_slice hr5
                  have DN := (unhide HDN zz w5 v5 _ _ (unhide HX).2 (unhide (unhide HX).1).2.2.1 (unhide (unhide HX).1).2.2.2 hr5 hg5 hv5)
                  have z1 : w5.cell? ⟨g, k * 5 + 2, none⟩ = some (.slice ac NQ cc) := (by rw [World.cell?_of_block (w := w4.drew) DN.2]; exact x1)
                  have fz : ∀ j, w5.frozen? ⟨g, j, none⟩ = false := (fun j => (by rw [World.frozen?_of_block (w := w4.drew) DN.2]; exact unhide HF j))
                  have HRR := hide DN.1
                  clear DN hr5 hg5 hv5
                  subst e5_
                  refine hK _ _ ?_
                  clear hK K
                  try simp only [Act.put, List.setIfInBounds_toArray, List.set_cons_zero, List.set_cons_succ]
                  refine wpAny_take (i := 9) (oi := { dst := some 51, op := Op.nilCheck (Operand.tmp 42), type := 0, pos := "queue.go:27", after := #[{ on := 0, ground := Ground.data }, { on := 0, ground := Ground.phase }, { on := 1, ground := Ground.phase }, { on := 2, ground := Ground.phase }, { on := 3, ground := Ground.phase }, { on := 4, ground := Ground.phase }, { on := 5, ground := Ground.phase }, { on := 6, ground := Ground.phase }, { on := 7, ground := Ground.phase }, { on := 8, ground := Ground.phase }], guard := none }) (v := .pointer (some ⟨g, k * 5, none⟩)) rfl (by kernel_rfl) (by kernel_rfl) (by kernel_rfl) (fun _ _ _ h => h) (Or.inl ⟨by rfl, fun w => by go_simp⟩) ?_
                  try simp only [Act.put, List.setIfInBounds_toArray, List.set_cons_zero, List.set_cons_succ]
                  refine wpAny_take (i := 10) (oi := { dst := some 52, op := Op.fieldAddr 73 (Operand.tmp 51) 2, type := 0, pos := "queue.go:27", after := #[{ on := 9, ground := Ground.data }, { on := 0, ground := Ground.phase }, { on := 1, ground := Ground.phase }, { on := 2, ground := Ground.phase }, { on := 3, ground := Ground.phase }, { on := 4, ground := Ground.phase }, { on := 5, ground := Ground.phase }, { on := 6, ground := Ground.phase }, { on := 7, ground := Ground.phase }, { on := 8, ground := Ground.phase }], guard := none }) (v := .pointer (some ⟨g, k * 5 + 2, none⟩)) rfl (by kernel_rfl) (by kernel_rfl) (by kernel_rfl) (fun _ _ _ h => h) (Or.inl ⟨by rfl, fun w => by go_simp⟩) ?_
                  try simp only [Act.put, List.setIfInBounds_toArray, List.set_cons_zero, List.set_cons_succ]
                  refine wpAny_ready (rs := [11]) (by kernel_rfl) (by simp) (AllReady.cons (o := { dst := none, op := Op.store 52 (Operand.tmp 52) (Operand.tmp 50), type := 0, pos := "queue.go:27", after := #[{ on := 10, ground := Ground.data }, { on := 8, ground := Ground.data }, { on := 8, ground := Ground.chain }, { on := 0, ground := Ground.phase }, { on := 1, ground := Ground.phase }, { on := 2, ground := Ground.phase }, { on := 3, ground := Ground.phase }, { on := 4, ground := Ground.phase }, { on := 5, ground := Ground.phase }, { on := 6, ground := Ground.phase }, { on := 7, ground := Ground.phase }, { on := 8, ground := Ground.phase }], guard := none }) rfl (fun K hK => ?_) AllReady.nil)
                  go_simp
                  refine hK _ _ ?_
                  clear hK K
                  try simp only [Act.put]
                  refine wpAny_done (by kernel_rfl) ?_ _
                  obtain ⟨xs2, HR2⟩ := unhide HRR
                  obtain ⟨V, hV⟩ : ∃ V, V = w5.setCell ⟨g, k * 5 + 2, none⟩ (.slice a5_ (NQ + 1) c5_) := ⟨_, rfl⟩
                  rw [← hV] at HR2
                  obtain ⟨u1, uf, xs3, hfin⟩ := unhide HFIN V xs2 (unhide HR2).1 (unhide HR2).2
                  have HFF := hide hfin
                  have HV := hide hV
                  clear hfin hV HR2 HRR z1 fz HX HFIN HDN HBS HROW HF HI RNG KF HOD x1 y1 y2 y3 y4
                  go_upto_region 7 with fail
                  rw [← unhide HV]
                  clear HV
                  go_wp2_with fail
                  go_ret2
                  exact ⟨_, 0, rfl, (unhide HFF).2, Or.inr ⟨(unhide HOK).1, (unhide HOK).2.1, (unhide HOK).2.2, k, L, q, (unhide HL).1, (unhide HL).2.1, Or.inr ⟨rfl, by rw [← (unhide HL).2.2.1]; exact (unhide HLS).1, by rw [← (unhide HL).2.2.2]; exact (unhide HLS).2, xs3, (unhide HFF).1⟩⟩⟩
end Go.Proofs.Ytgiicendejgklaa
