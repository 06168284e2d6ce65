/- PostApart, the walk: the device's box is out, its requests are not all done. -/
import Derived.Test.YtnimdnoemmodaaaZ22
import Derived.Deep.RegionHeld3
import Derived.Deep.QuietTactic
namespace Go.Proofs.Ytnimdnoemmodaaa
open Go.RowKit Go.Maps
set_option maxRecDepth 100000 in
set_option maxHeartbeats 16000000 in
theorem PostApart_011 (W : World) (v : Value) (l : List Bx) (xs : List (Value × List Mx)) (hB : Bxs W v l xs) (d : Int) (m : Ml) (x : Mx) (hm : MlR W m x) (hmb : mlB m) (hp : PlcOk l d) (h1 : ∀ b ∈ l, b.dev = d → b.out = true) (h2 : ∀ b ∈ l, b.dev = d → ¬ b.dn = 1099511627776) :
    Calls Try.prog 4 #[v, .int .i64 d, .agg (mlC m x).toArray] W fun e w' => e = .returned (.bool true) ∧ Below W.heap.size W w' := by
  obtain ⟨W0, hW0⟩ : ∃ w0, w0 = W.alloc (.cells (mlC m x).toArray 53) := ⟨_, rfl⟩
  have bl : Below W.heap.size W W0 := by rw [hW0]; exact bwA _ _
  have kk : W0.heap[W.heap.size]? = some (.cells (mlC m x).toArray 53 (0, 0)) := by rw [hW0]; exact heap_alloc_new _ _
  have rg : W0.rangeAt W.heap.size 0 (mlC m x) := blk_rng kk (fun j u hu => by rw [Nat.zero_add]; exact hu)
  have HS0 : Hid (W0.drew.rangeAt W.heap.size 0 (mlC m x)) := rng_bw rg (Below.refl _ _).drew
  have HSb : Hid (∀ z, Below W0.heap.size W0 z → z.rangeAt W.heap.size 0 (mlC m x)) := fun z hz => rng_bw rg hz
  have HI : Hid ((Try.prog.info? 53).map (·.size) = some (mlC m x).length) := infoMlS
  have hB0 : ∀ z, Below W.heap.size W z → Bxs z v l xs := fun z hz => ⟨hB.len, hB.xl, fun i b y hb hy => (by
    obtain ⟨e1, e2, ⟨ad, cp, e3, e4⟩, e5⟩ := hB.el i b y hb hy
    exact ⟨e1, e2, ⟨ad, cp, e3, e4.imp (fun q => q) (fun ⟨g, o, q1, q2⟩ => ⟨g, o, q1, fun j u hu => by have := q2 j u hu; rw [hz.cell (lt_of_cell this)]; exact this⟩)⟩, fun j mm yy h1 h2 => ⟨(e5 j mm yy h1 h2).1.bw hz, (e5 j mm yy h1 h2).2⟩⟩), (by
    obtain ⟨ad, cp, e3, e4⟩ := hB.form
    exact ⟨ad, cp, e3, e4.imp (fun q => q) (fun ⟨g, o, q1, q2⟩ => ⟨g, o, q1, fun j u hu => by have := q2 j u hu; rw [hz.cell (lt_of_cell this)]; exact this⟩)⟩)⟩
  have KZ := hide (bxsize_any (hB0 W0.drew (bl.trans (Below.mono (Below.refl _ _).drew bl.size))))
  have KM : Hid (∀ z, Below W0.heap.size W0 z → Calls Try.prog 14 #[.agg (mlC m x).toArray] z fun e w' => ∃ n : Nat, e = .returned (.int .i64 (n : Int)) ∧ n ≤ 3377699720527872 ∧ (n ≤ 262144 → n = mlN m) ∧ Below z.heap.size z w') := fun z hz => mlsize_any ((hm.bw bl).bw hz)
  have HX := hide (And.intro hB (And.intro hm hmb))
  have HW : Hid (W0 = W.alloc (.cells (mlC m x).toArray 53)) := hW0
  have HBL := hide bl
  obtain ⟨a, cap, hv⟩ : ∃ a cap, v = .slice a l.length cap := by obtain ⟨a, cap, e, _⟩ := hB.form; exact ⟨a, cap, e⟩
  obtain ⟨N, hN⟩ : ∃ N, N = l.length := ⟨_, rfl⟩
  rw [← hN] at hv
  have HN := hide hN
  subst hv
  clear hB hm hmb hW0 bl kk rg hB0 hN
  obtain ⟨CS, hCS⟩ : ∃ z, z = mlC m x := ⟨_, rfl⟩
  rw [← hCS] at HS0 HSb HI KM HW ⊢
  have HCS := hide hCS
  clear hCS
  go_enter Try.func4, Try.ntmps4
  go_upto_region 1 with fail
  rw [← unhide HW]
  clear HW
  refine wp_region_held_drew (S := fun w' : World => w'.rangeAt W.heap.size 0 CS) (by kernel_rfl) (unhide HS0) (fun hHeld => ?_)
  refine wpAnyH_take (i := 0) (oi := { dst := some 14, op := Op.move (Operand.tmp 0), type := 22, pos := "law.go:112", after := #[], guard := none }) (v := ?v0a) rfl (by kernel_rfl) (by kernel_rfl) (by kernel_rfl) (fun _ _ _ h => h) (Or.inl ⟨by rfl, ?hy0a⟩) (by exact hHeld) ?_
  case hy0a => (intro w hSw; (try dsimp only at hSw); go_simp; try (with_reducible rfl))
  try simp only [Act.put, List.setIfInBounds_toArray, List.set_cons_zero, List.set_cons_succ]
  refine wpAnyH_take (i := 2) (oi := { dst := some 16, op := Op.load 53 (Operand.tmp 5), type := 53, pos := "law.go:112", after := #[], guard := none }) (v := .agg CS.toArray) rfl (by kernel_rfl) (by kernel_rfl) (by kernel_rfl) (fun _ _ _ h => h) (yieldsIf_load_mid (by rfl) 53 (.tmp 5) rfl (W.heap.size) (0) (by rfl) CS _ (fun _ h => h) Try.underlying53 rfl (unhide HI)) (by exact hHeld) ?_
  try simp only [Act.put, List.setIfInBounds_toArray, List.set_cons_zero, List.set_cons_succ]
  refine wpAnyH_ready (rs := [1]) (by kernel_rfl) (by simp) ?_
  refine AllReadyH.cons (o := { dst := some 15, op := Op.call { callee := Callee.value (Operand.func 6), args := #[Operand.tmp 14], argTypes := #[22] }, type := 3, pos := "law.go:112", after := #[{ on := 0, ground := Ground.data }], guard := none }) rfl (fun K hK => ?_) AllReadyH.nil
  go_simp
  refine (unhide KZ).mono ?_
  rintro e z1 ⟨n, rfl, hn, hnl, b1⟩
  have c1 := bw_tr (Below.refl _ _).drew b1
  have S1 := unhide HSb z1 c1
  go_wp2_with fail
  refine hK.out _ _ S1 (fun _ => ?_)
  clear hK K
  try simp only [Act.put, List.setIfInBounds_toArray, List.set_cons_zero, List.set_cons_succ]
  refine wpAnyH_ready (rs := [3]) (by kernel_rfl) (by simp) ?_
  refine AllReadyH.cons (o := { dst := some 17, op := Op.call { callee := Callee.value (Operand.func 14), args := #[Operand.tmp 16], argTypes := #[53] }, type := 3, pos := "law.go:112", after := #[{ on := 2, ground := Ground.data }, { on := 1, ground := Ground.chain }], guard := none }) rfl (fun K hK => ?_) AllReadyH.nil
  go_simp
  refine (unhide KM z1 c1).mono ?_
  rintro e z2 ⟨q, rfl, hq, hql, b2⟩
  have c2 := bw_tr c1 b2
  have S2 := unhide HSb z2 c2
  go_wp2_with fail
  refine hK.out _ _ S2 (fun _ => ?_)
  clear hK K
  try simp only [Act.put, List.setIfInBounds_toArray, List.set_cons_zero, List.set_cons_succ]
  refine wpAnyH_ready (rs := [4]) (by kernel_rfl) (by simp) ?_
  refine AllReadyH.cons (o := { dst := some 18, op := Op.buildSlice 24 2 #[(0, Operand.tmp 15), (1, Operand.tmp 17)], type := 24, pos := "law.go:112", after := #[{ on := 1, ground := Ground.data }, { on := 3, ground := Ground.data }], guard := none }) rfl (fun K hK => ?_) AllReadyH.nil
  go_simp
  have c3 := bw_tr c2 (bwA z2 (.cells #[.int .i64 (n : Int), .int .i64 (q : Int)] 3))
  have S3 := unhide HSb _ c3
  refine hK.out _ _ S3 (fun _ => ?_)
  clear hK K
  try simp only [Act.put, List.setIfInBounds_toArray, List.set_cons_zero, List.set_cons_succ]
  refine wpAnyH_ready (rs := [5]) (by kernel_rfl) (by simp) ?_
  refine AllReadyH.cons (o := { dst := some 19, op := Op.call { callee := Callee.value (Operand.func 5), args := #[Operand.tmp 18], argTypes := #[24] }, type := 4, pos := "law.go:112", after := #[{ on := 4, ground := Ground.data }, { on := 3, ground := Ground.chain }], guard := none }) rfl (fun K hK => ?_) AllReadyH.nil
  go_simp
  refine (beyond15 z2.heap.size n q 2 _ (by omega) (by omega) (blk_c (heap_alloc_new _ _) rfl) (blk_c (heap_alloc_new _ _) rfl)).mono ?_
  rintro e z5 ⟨rfl, hz5⟩
  subst hz5
  go_wp2_with fail
  refine hK.out _ _ S3 (fun _ => ?_)
  clear hK K
  try simp only [Act.put, List.setIfInBounds_toArray, List.set_cons_zero, List.set_cons_succ]
  refine wpAnyH_done (by kernel_rfl) ?_ _
  obtain ⟨zb, hzb⟩ : ∃ z, z = decide (262144 < n + q) := ⟨_, rfl⟩
  rw [← hzb]
  have HZ0 := hide (bw_tr (unhide HBL) c3)
  have HRG := hide S3
  obtain ⟨z3, hz3⟩ : ∃ z, z = z2.alloc (.cells #[.int .i64 (n : Int), .int .i64 (q : Int)] 3) := ⟨_, rfl⟩
  have HZS : Hid (zb = false → n + q ≤ 262144) := fun e => by rw [hzb] at e; simpa using e
  have HNQ := hide (And.intro hnl hql)
  rw [← hz3] at HZ0 HRG ⊢
  clear hz3 c3 S3 S2 c2 S1 c1 b1 b2 hn hq hnl hql hHeld KZ KM HSb HS0 hzb
  cases zb with
  | true =>
    go_wp2_with fail
    go_ret
    exact ⟨rfl, unhide HZ0⟩
  | false =>
    have hnq := unhide HZS rfl
    have HSM : Hid (SmX l ∧ SmM m ∧ RdL kBx W (.slice a N cap) l xs ∧ (∀ b ∈ l, b.ml.length ≤ 1000000)) := by
      obtain ⟨q1, q2⟩ := unhide HNQ
      obtain ⟨e1, e2, e3⟩ := unhide HX
      have f1 := q1 (by omega)
      have f2 := q2 (by omega)
      have hsx := smX_of e1 (by omega)
      refine ⟨hsx, smM_of e2 e3 (by omega), e1.rdl hsx, fun b hb => ?_⟩
      have h1 : bxN b ≤ bsN l := mem_sumP (f := bxN) hb
      unfold bxN at h1
      omega
    have KP : Hid (Calls Try.prog 12 #[.slice a N cap, .int .i64 d, .agg CS.toArray] z3 fun e w' => ∃ v' er, e = .returned (.tuple #[v', .int .i64 er]) ∧ Below z3.heap.size z3 w' ∧ Hid (Trn z3.heap.size w' v' er l d putE (putN m))) := by
      rw [unhide HCS]
      exact poPut_any d ((unhide HSM).2.2.1.bw (unhide HZ0)) (unhide HSM).1 ((unhide HX).2.1.bw (unhide HZ0)) (unhide HSM).2.1
    have KD : Hid (∀ z, Below W.heap.size W z → Calls Try.prog 16 #[.slice a N cap, .int .i64 d, .int .i64 1099511627776] z fun e w' => ∃ v' er, e = .returned (.tuple #[v', .int .i64 er]) ∧ Below z.heap.size z w' ∧ Hid (Trn z.heap.size w' v' er l d (fun b => donE 1099511627776 b.dn) donN)) := fun z hz => poDone_any d 1099511627776 ((unhide HSM).2.2.1.bw hz) (unhide HSM).1
    have KC : Hid (∀ z, Below W.heap.size W z → Calls Try.prog 15 #[.slice a N cap, .int .i64 d] z fun e w' => ∃ v' er, e = .returned (.tuple #[v', .int .i64 er]) ∧ Below z.heap.size z w' ∧ Hid ((er = 1 ∧ ¬ (0 ≤ d ∧ d < 512) ∧ v' = .slice none 0 0) ∨ Trn z.heap.size w' v' er l d (fun _ => 0) cloN)) := fun z hz => poClose_any d ((unhide HSM).2.2.1.bw hz) (unhide HSM).1
    have HL := hide (unhide HSM).2.2.1
    have hNI : (N : Int) ≤ 262144 := by
      obtain ⟨q1, q2⟩ := unhide HNQ
      have := unhide HN
      have := q1 (by omega)
      omega
    clear HX HNQ HZS hnq
    go_wp2_with (refine wpList_load_mid rfl 53 (.tmp 5) rfl W.heap.size 0 rfl CS _ (unhide HRG) Try.underlying53 rfl (unhide HI) ?_)
    refine (unhide KP).mono ?_
    rintro e z4 ⟨va, ea, rfl, b4, ta⟩
    have c4 := bw_tr (unhide HZ0) b4
    have KC4 := hide (unhide KC z4 c4)
    clear KP KC
    go_wp2_with fail
    refine (unhide KC4).mono ?_
    rintro e z5 ⟨vb, fb, rfl, b5, tb⟩
    have c5 := bw_tr c4 b5
    have KD5 := hide (unhide KD z5 c5)
    clear KC4 KD
    go_wp2_with fail
    refine (unhide KD5).mono ?_
    rintro e z6 ⟨vc, gc, rfl, b6, tc⟩
    have HZ6 := hide (bw_tr c5 b6)
    have HZ0 := HZ6
    have Aa : Hid (ApR z6 va ea l d) := ((trn_ap (E := putE) (N := putN m) (unhide HSM).1 (fun b hb h1 h2 h3 => ⟨rfl, h2, smB_put (unhide HSM).2.1 h1 ((unhide HSM).2.2.2 b hb)⟩) (unhide ta)).bw b5).bw b6
    have Ab : Hid (ApR z6 vb fb l d) := by
      rcases unhide tb with q | q
      · exact Or.inl (by rw [q.1]; decide)
      · exact (trn_ap (E := fun _ => 0) (N := cloN) (unhide HSM).1 (fun b hb h1 h2 h3 => ⟨rfl, h2, ⟨h1.n, h1.m⟩⟩) q).bw b6
    have Ac : Hid (ApR z6 vc gc l d) := trn_ap (E := fun b => donE 1099511627776 b.dn) (N := donN) (unhide HSM).1 (fun b hb h1 h2 h3 => ⟨rfl, by
      simp only [donE] at h3
      split at h3
      · cases h3
      · split at h3
        · cases h3
        · simp only [donN]; omega, ⟨h1.n, h1.m⟩⟩) (unhide tc)
    obtain ⟨b1, m1, d1, e1, q1⟩ := trn_yes2 hp (unhide ta)
    obtain ⟨b3, m3, d3, e3, q3⟩ := trn_yes2 hp (unhide tc)
    have ha : ¬ ea = 0 := by rw [q1]; unfold putE; rw [h1 b1 m1 d1]; decide
    have hb : fb = 0 := by
      rcases unhide tb with q | q
      · exact absurd hp.dev q.2.1
      · obtain ⟨_, h⟩ := trn_yes hp q; exact h
    have hc : gc = 0 := by rw [q3]; unfold donE; rw [if_neg (by omega), if_neg (h2 b3 m3 d3)]
    clear ta tb tc b4 b5 b6 c4 c5 KD5 HSM HRG HCS HI hp h1 h2 m1 d1 e1 q1 m3 d3 e3 q3
    have ha2 : (ea == 0) = false := by simp [ha]
    have ha3 : decide (ea = 0) = false := decide_eq_false ha
    have ha4 : (ea != 0) = true := by simp [ha]
    clear Aa
    obtain ⟨rfl, lb, xb, gb, cb, hvb, hrb, hsb, hmb, hgb⟩ := (unhide Ab).resolve_left (fun q => q hb)
    rw [← unhide HN] at hvb
    subst hvb
    have Hb := hide (And.intro hrb (And.intro hsb (And.intro hmb hgb)))
    clear hrb hsb hmb hgb hb Ab
    obtain ⟨rfl, lc, xc, gc, cc, hvc, hrc, hsc, hmc, hgc⟩ := (unhide Ac).resolve_left (fun q => q hc)
    rw [← unhide HN] at hvc
    subst hvc
    have Hc := hide (And.intro hrc (And.intro hsc (And.intro hmc hgc)))
    clear hrc hsc hmc hgc hc Ac
    go_wp2_with fail
    go_loopw [13] (fun iv wr => ∃ i : Nat, iv = .int .i64 (i : Int) ∧ i ≤ N ∧ Hid (Below z6.heap.size z6 wr)) (fun iv _ => (N - intOf iv).toNat)
    case atStart => exact ⟨0, rfl, Nat.zero_le _, Below.refl _ _⟩
    case round =>
      obtain ⟨i, rfl, hiN, HB⟩ := hrel
      have h0i : (0 : Int) ≤ (i : Int) := by omega
      by_cases hlt : i < N
      · have hltI : (i : Int) < (N : Int) := by omega
        obtain ⟨b, hb⟩ : ∃ b, l[i]? = some b := ⟨_, List.getElem?_eq_getElem (by rw [← unhide HN]; exact hlt)⟩
        obtain ⟨gl, ol, xq, rfl, _, _, _⟩ := (unhide HL).get hb
        obtain ⟨xl, rl, sb, cl⟩ := ap_at (unhide HL) hb
        have rlw := rng_bw cl (bw_tr (unhide HZ6) (unhide HB))
        have q0 : wr.cell? ⟨gl, ol + i * 4, none⟩ = some (.int .i64 b.dev) := rlw 0 _ rfl
        have rl6 := rl.bw (bw_tr (unhide HZ6) (unhide HB))
        obtain ⟨bd, hbd⟩ : ∃ z, z = b.dev := ⟨_, rfl⟩
        rw [← hbd] at q0
        by_cases hbq : bd = d
        · subst hbq
          clear rlw rl6 rl cl hbd hb sb
          go_wp2_with fail
          go_roundw
          case rel => exact ⟨i + 1, rfl, by omega, unhide HB⟩
          case measure => simp only [intOf]; omega
        · have hbq2 : (bd == d) = false := by simp [hbq]
          have hbq3 : decide (bd = d) = false := decide_eq_false hbq
          obtain ⟨yb, rb, _, kb⟩ := ap_at (unhide Hb).1 ((unhide Hb).2.2.2 i b hb (by rw [← hbd]; exact hbq))
          rw [Nat.zero_add] at kb
          have Kb : Hid (∀ W', Below wr.heap.size wr W' → Calls Try.prog 17 #[.agg (bxC b yb.1).toArray, .agg (bxC b xl.1).toArray] W' fun e w' => e = .returned (.bool true) ∧ Below W'.heap.size W' w') := fun W' hW => sameBox_any ((rb.bw (unhide HB)).bw hW) (rl6.bw hW) (Nat.le_trans sb.n (by decide))
          have Rb : Hid (∀ W', Below wr.heap.size wr W' → W'.rangeAt gb (i * 4) (bxC b yb.1)) := fun W' hW => rng_bw (rng_bw kb (unhide HB)) hW
          have HIb : Hid ((Try.prog.info? 60).map (·.size) = some (bxC b yb.1).length) := infoBxS
          clear rb kb
          obtain ⟨yc, rc, _, kc⟩ := ap_at (unhide Hc).1 ((unhide Hc).2.2.2 i b hb (by rw [← hbd]; exact hbq))
          rw [Nat.zero_add] at kc
          have Kc : Hid (∀ W', Below wr.heap.size wr W' → Calls Try.prog 17 #[.agg (bxC b yc.1).toArray, .agg (bxC b xl.1).toArray] W' fun e w' => e = .returned (.bool true) ∧ Below W'.heap.size W' w') := fun W' hW => sameBox_any ((rc.bw (unhide HB)).bw hW) (rl6.bw hW) (Nat.le_trans sb.n (by decide))
          have Rc : Hid (∀ W', Below wr.heap.size wr W' → W'.rangeAt gc (i * 4) (bxC b yc.1)) := fun W' hW => rng_bw (rng_bw kc (unhide HB)) hW
          have HIc : Hid ((Try.prog.info? 60).map (·.size) = some (bxC b yc.1).length) := infoBxS
          clear rc kc
          have RL : Hid (∀ W', Below wr.heap.size wr W' → W'.rangeAt gl (ol + i * 4) (bxC b xl.1)) := fun W' hW => rng_bw rlw hW
          have HIl : Hid ((Try.prog.info? 60).map (·.size) = some (bxC b xl.1).length) := infoBxS
          clear rlw rl6 rl cl hbd hb sb
          generalize bxC b yb.1 = Bb at *
          generalize bxC b yc.1 = Bc at *
          generalize bxC b xl.1 = BL at *
          go_wp2_with fail
          clear q0
          refine wp_region_held_drew (S := fun w' : World => w'.rangeAt gl (ol + i * 4) BL ∧ w'.rangeAt gb (i * 4) Bb ∧ w'.rangeAt gc (i * 4) Bc) (by kernel_rfl) (⟨unhide RL _ (Below.refl _ _).drew, unhide Rb _ (Below.refl _ _).drew, unhide Rc _ (Below.refl _ _).drew⟩) (fun hHeld => ?_)
          refine wpAnyH_take (i := 0) (oi := { dst := some 52, op := Op.move (Operand.tmp 8), type := 28, pos := "law.go:122", after := #[], guard := none }) (v := ?v0t4) rfl (by kernel_rfl) (by kernel_rfl) (by kernel_rfl) (fun _ _ _ h => h) (Or.inl ⟨by rfl, ?hy0t4⟩) (by exact hHeld) ?_
          case hy0t4 => (intro w hSw; (try dsimp only at hSw); go_simp; try (with_reducible rfl))
          try simp only [Act.put, List.setIfInBounds_toArray, List.set_cons_zero, List.set_cons_succ]
          refine wpAnyH_take (i := 1) (oi := { dst := some 53, op := Op.binOp BinOp.eql 28 (Operand.tmp 52) (Operand.const (Value.int IntKind.i64 0)) 28, type := 4, pos := "law.go:122", after := #[{ on := 0, ground := Ground.data }], guard := none }) (v := ?v1t4) rfl (by kernel_rfl) (by kernel_rfl) (by kernel_rfl) (fun _ _ _ h => h) (Or.inl ⟨by rfl, ?hy1t4⟩) (by exact hHeld) ?_
          case hy1t4 => (intro w hSw; (try dsimp only at hSw); go_simp; try (with_reducible rfl))
          try simp only [Act.put, List.setIfInBounds_toArray, List.set_cons_zero, List.set_cons_succ]
          refine wpAnyH_take (i := 2) (oi := { dst := some 54, op := Op.move (Operand.tmp 53), type := 4, pos := "law.go:122", after := #[{ on := 1, ground := Ground.data }], guard := none }) (v := ?v2t4) rfl (by kernel_rfl) (by kernel_rfl) (by kernel_rfl) (fun _ _ _ h => h) (Or.inl ⟨by rfl, ?hy2t4⟩) (by exact hHeld) ?_
          case hy2t4 => (intro w hSw; (try dsimp only at hSw); go_simp; try (with_reducible rfl))
          try simp only [Act.put, List.setIfInBounds_toArray, List.set_cons_zero, List.set_cons_succ]
          refine wpAnyH_take (i := 3) (oi := { dst := some 55, op := Op.move (Operand.tmp 7), type := 22, pos := "law.go:122", after := #[{ on := 2, ground := Ground.guard }], guard := some (2, true) }) (v := undef) rfl (by kernel_rfl) (by kernel_rfl) (by kernel_rfl) (fun _ _ _ h => h) (Or.inr ⟨by rfl, rfl⟩) (by exact hHeld) ?_
          try simp only [Act.put, List.setIfInBounds_toArray, List.set_cons_zero, List.set_cons_succ]
          refine wpAnyH_take (i := 4) (oi := { dst := some 56, op := Op.call { callee := Callee.builtin Builtin.len, args := #[Operand.tmp 55], argTypes := #[22] }, type := 3, pos := "law.go:122", after := #[{ on := 3, ground := Ground.data }, { on := 2, ground := Ground.guard }], guard := some (2, true) }) (v := undef) rfl (by kernel_rfl) (by kernel_rfl) (by kernel_rfl) (fun _ _ _ h => h) (Or.inr ⟨by rfl, rfl⟩) (by exact hHeld) ?_
          try simp only [Act.put, List.setIfInBounds_toArray, List.set_cons_zero, List.set_cons_succ]
          refine wpAnyH_take (i := 5) (oi := { dst := some 57, op := Op.move (Operand.tmp 0), type := 22, pos := "law.go:122", after := #[{ on := 2, ground := Ground.guard }], guard := some (2, true) }) (v := undef) rfl (by kernel_rfl) (by kernel_rfl) (by kernel_rfl) (fun _ _ _ h => h) (Or.inr ⟨by rfl, rfl⟩) (by exact hHeld) ?_
          try simp only [Act.put, List.setIfInBounds_toArray, List.set_cons_zero, List.set_cons_succ]
          refine wpAnyH_take (i := 6) (oi := { dst := some 58, op := Op.call { callee := Callee.builtin Builtin.len, args := #[Operand.tmp 57], argTypes := #[22] }, type := 3, pos := "law.go:122", after := #[{ on := 5, ground := Ground.data }, { on := 2, ground := Ground.guard }], guard := some (2, true) }) (v := undef) rfl (by kernel_rfl) (by kernel_rfl) (by kernel_rfl) (fun _ _ _ h => h) (Or.inr ⟨by rfl, rfl⟩) (by exact hHeld) ?_
          try simp only [Act.put, List.setIfInBounds_toArray, List.set_cons_zero, List.set_cons_succ]
          refine wpAnyH_take (i := 7) (oi := { dst := some 59, op := Op.binOp BinOp.neq 3 (Operand.tmp 56) (Operand.tmp 58) 3, type := 4, pos := "law.go:122", after := #[{ on := 4, ground := Ground.data }, { on := 6, ground := Ground.data }, { on := 2, ground := Ground.guard }], guard := some (2, true) }) (v := undef) rfl (by kernel_rfl) (by kernel_rfl) (by kernel_rfl) (fun _ _ _ h => h) (Or.inr ⟨by rfl, rfl⟩) (by exact hHeld) ?_
          try simp only [Act.put, List.setIfInBounds_toArray, List.set_cons_zero, List.set_cons_succ]
          refine wpAnyH_take (i := 8) (oi := { dst := some 60, op := Op.move (Operand.tmp 59), type := 4, pos := "law.go:122", after := #[{ on := 7, ground := Ground.data }, { on := 2, ground := Ground.chain }, { on := 2, ground := Ground.guard }], guard := some (2, true) }) (v := undef) rfl (by kernel_rfl) (by kernel_rfl) (by kernel_rfl) (fun _ _ _ h => h) (Or.inr ⟨by rfl, rfl⟩) (by exact hHeld) ?_
          try simp only [Act.put, List.setIfInBounds_toArray, List.set_cons_zero, List.set_cons_succ]
          refine wpAnyH_take (i := 9) (oi := { dst := some 61, op := Op.move (Operand.tmp 7), type := 22, pos := "law.go:122", after := #[{ on := 8, ground := Ground.guard }], guard := some (8, false) }) (v := undef) rfl (by kernel_rfl) (by kernel_rfl) (by kernel_rfl) (fun _ _ _ h => h) (Or.inr ⟨by rfl, rfl⟩) (by exact hHeld) ?_
          try simp only [Act.put, List.setIfInBounds_toArray, List.set_cons_zero, List.set_cons_succ]
          refine wpAnyH_take (i := 10) (oi := { dst := some 62, op := Op.move (Operand.tmp 13), type := 3, pos := "law.go:122", after := #[{ on := 8, ground := Ground.guard }], guard := some (8, false) }) (v := undef) rfl (by kernel_rfl) (by kernel_rfl) (by kernel_rfl) (fun _ _ _ h => h) (Or.inr ⟨by rfl, rfl⟩) (by exact hHeld) ?_
          try simp only [Act.put, List.setIfInBounds_toArray, List.set_cons_zero, List.set_cons_succ]
          refine wpAnyH_take (i := 11) (oi := { dst := some 63, op := Op.indexAddr 22 (Operand.tmp 61) (Operand.tmp 62), type := 0, pos := "law.go:122", after := #[{ on := 9, ground := Ground.data }, { on := 10, ground := Ground.data }, { on := 8, ground := Ground.guard }], guard := some (8, false) }) (v := undef) rfl (by kernel_rfl) (by kernel_rfl) (by kernel_rfl) (fun _ _ _ h => h) (Or.inr ⟨by rfl, rfl⟩) (by exact hHeld) ?_
          try simp only [Act.put, List.setIfInBounds_toArray, List.set_cons_zero, List.set_cons_succ]
          refine wpAnyH_take (i := 12) (oi := { dst := some 64, op := Op.load 60 (Operand.tmp 63), type := 60, pos := "law.go:122", after := #[{ on := 11, ground := Ground.data }, { on := 8, ground := Ground.guard }], guard := some (8, false) }) (v := undef) rfl (by kernel_rfl) (by kernel_rfl) (by kernel_rfl) (fun _ _ _ h => h) (Or.inr ⟨by rfl, rfl⟩) (by exact hHeld) ?_
          try simp only [Act.put, List.setIfInBounds_toArray, List.set_cons_zero, List.set_cons_succ]
          refine wpAnyH_take (i := 13) (oi := { dst := some 65, op := Op.move (Operand.tmp 0), type := 22, pos := "law.go:122", after := #[{ on := 8, ground := Ground.guard }], guard := some (8, false) }) (v := undef) rfl (by kernel_rfl) (by kernel_rfl) (by kernel_rfl) (fun _ _ _ h => h) (Or.inr ⟨by rfl, rfl⟩) (by exact hHeld) ?_
          try simp only [Act.put, List.setIfInBounds_toArray, List.set_cons_zero, List.set_cons_succ]
          refine wpAnyH_take (i := 14) (oi := { dst := some 66, op := Op.move (Operand.tmp 13), type := 3, pos := "law.go:122", after := #[{ on := 8, ground := Ground.guard }], guard := some (8, false) }) (v := undef) rfl (by kernel_rfl) (by kernel_rfl) (by kernel_rfl) (fun _ _ _ h => h) (Or.inr ⟨by rfl, rfl⟩) (by exact hHeld) ?_
          try simp only [Act.put, List.setIfInBounds_toArray, List.set_cons_zero, List.set_cons_succ]
          refine wpAnyH_take (i := 15) (oi := { dst := some 67, op := Op.indexAddr 22 (Operand.tmp 65) (Operand.tmp 66), type := 0, pos := "law.go:122", after := #[{ on := 13, ground := Ground.data }, { on := 14, ground := Ground.data }, { on := 8, ground := Ground.guard }], guard := some (8, false) }) (v := undef) rfl (by kernel_rfl) (by kernel_rfl) (by kernel_rfl) (fun _ _ _ h => h) (Or.inr ⟨by rfl, rfl⟩) (by exact hHeld) ?_
          try simp only [Act.put, List.setIfInBounds_toArray, List.set_cons_zero, List.set_cons_succ]
          refine wpAnyH_take (i := 16) (oi := { dst := some 68, op := Op.load 60 (Operand.tmp 67), type := 60, pos := "law.go:122", after := #[{ on := 15, ground := Ground.data }, { on := 8, ground := Ground.guard }], guard := some (8, false) }) (v := undef) rfl (by kernel_rfl) (by kernel_rfl) (by kernel_rfl) (fun _ _ _ h => h) (Or.inr ⟨by rfl, rfl⟩) (by exact hHeld) ?_
          try simp only [Act.put, List.setIfInBounds_toArray, List.set_cons_zero, List.set_cons_succ]
          refine wpAnyH_take (i := 17) (oi := { dst := some 69, op := Op.call { callee := Callee.value (Operand.func 17), args := #[Operand.tmp 64, Operand.tmp 68], argTypes := #[60, 60] }, type := 4, pos := "law.go:122", after := #[{ on := 12, ground := Ground.data }, { on := 16, ground := Ground.data }, { on := 8, ground := Ground.chain }, { on := 8, ground := Ground.guard }], guard := some (8, false) }) (v := undef) rfl (by kernel_rfl) (by kernel_rfl) (by kernel_rfl) (fun _ _ _ h => h) (Or.inr ⟨by rfl, rfl⟩) (by exact hHeld) ?_
          try simp only [Act.put, List.setIfInBounds_toArray, List.set_cons_zero, List.set_cons_succ]
          refine wpAnyH_take (i := 18) (oi := { dst := some 70, op := Op.unOp UnOp.not 4 (Operand.tmp 69), type := 4, pos := "law.go:122", after := #[{ on := 17, ground := Ground.data }, { on := 8, ground := Ground.guard }], guard := some (8, false) }) (v := undef) rfl (by kernel_rfl) (by kernel_rfl) (by kernel_rfl) (fun _ _ _ h => h) (Or.inr ⟨by rfl, rfl⟩) (by exact hHeld) ?_
          try simp only [Act.put, List.setIfInBounds_toArray, List.set_cons_zero, List.set_cons_succ]
          refine wpAnyH_take (i := 19) (oi := { dst := some 71, op := Op.pick (Operand.tmp 60) (Operand.const (Value.bool true)) (Operand.tmp 70), type := 4, pos := "law.go:122", after := #[{ on := 8, ground := Ground.data }, { on := 18, ground := Ground.data }, { on := 2, ground := Ground.guard }], guard := some (2, true) }) (v := undef) rfl (by kernel_rfl) (by kernel_rfl) (by kernel_rfl) (fun _ _ _ h => h) (Or.inr ⟨by rfl, rfl⟩) (by exact hHeld) ?_
          try simp only [Act.put, List.setIfInBounds_toArray, List.set_cons_zero, List.set_cons_succ]
          refine wpAnyH_take (i := 20) (oi := { dst := some 72, op := Op.pick (Operand.tmp 54) (Operand.tmp 71) (Operand.const (Value.bool false)), type := 4, pos := "law.go:122", after := #[{ on := 2, ground := Ground.data }, { on := 19, ground := Ground.data }], guard := none }) (v := ?v20t4) rfl (by kernel_rfl) (by kernel_rfl) (by kernel_rfl) (fun _ _ _ h => h) (Or.inl ⟨by rfl, ?hy20t4⟩) (by exact hHeld) ?_
          case hy20t4 => (intro w hSw; (try dsimp only at hSw); go_simp; try (with_reducible rfl))
          try simp only [Act.put, List.setIfInBounds_toArray, List.set_cons_zero, List.set_cons_succ]
          refine wpAnyH_take (i := 21) (oi := { dst := some 73, op := Op.move (Operand.tmp 72), type := 4, pos := "law.go:122", after := #[{ on := 20, ground := Ground.data }, { on := 17, ground := Ground.chain }], guard := none }) (v := ?v21t4) rfl (by kernel_rfl) (by kernel_rfl) (by kernel_rfl) (fun _ _ _ h => h) (Or.inl ⟨by rfl, ?hy21t4⟩) (by exact hHeld) ?_
          case hy21t4 => (intro w hSw; (try dsimp only at hSw); go_simp; try (with_reducible rfl))
          try simp only [Act.put, List.setIfInBounds_toArray, List.set_cons_zero, List.set_cons_succ]
          refine wpAnyH_take (i := 22) (oi := { dst := some 74, op := Op.move (Operand.tmp 10), type := 28, pos := "law.go:122", after := #[{ on := 21, ground := Ground.guard }], guard := some (21, false) }) (v := ?v22t4) rfl (by kernel_rfl) (by kernel_rfl) (by kernel_rfl) (fun _ _ _ h => h) (Or.inl ⟨by rfl, ?hy22t4⟩) (by exact hHeld) ?_
          case hy22t4 => (intro w hSw; (try dsimp only at hSw); go_simp; try (with_reducible rfl))
          try simp only [Act.put, List.setIfInBounds_toArray, List.set_cons_zero, List.set_cons_succ]
          refine wpAnyH_take (i := 23) (oi := { dst := some 75, op := Op.binOp BinOp.eql 28 (Operand.tmp 74) (Operand.const (Value.int IntKind.i64 0)) 28, type := 4, pos := "law.go:122", after := #[{ on := 22, ground := Ground.data }, { on := 21, ground := Ground.guard }], guard := some (21, false) }) (v := ?v23t4) rfl (by kernel_rfl) (by kernel_rfl) (by kernel_rfl) (fun _ _ _ h => h) (Or.inl ⟨by rfl, ?hy23t4⟩) (by exact hHeld) ?_
          case hy23t4 => (intro w hSw; (try dsimp only at hSw); go_simp; try (with_reducible rfl))
          try simp only [Act.put, List.setIfInBounds_toArray, List.set_cons_zero, List.set_cons_succ]
          refine wpAnyH_take (i := 24) (oi := { dst := some 76, op := Op.move (Operand.tmp 75), type := 4, pos := "law.go:122", after := #[{ on := 23, ground := Ground.data }, { on := 21, ground := Ground.chain }, { on := 21, ground := Ground.guard }], guard := some (21, false) }) (v := ?v24t4) rfl (by kernel_rfl) (by kernel_rfl) (by kernel_rfl) (fun _ _ _ h => h) (Or.inl ⟨by rfl, ?hy24t4⟩) (by exact hHeld) ?_
          case hy24t4 => (intro w hSw; (try dsimp only at hSw); go_simp; try (with_reducible rfl))
          try simp only [Act.put, List.setIfInBounds_toArray, List.set_cons_zero, List.set_cons_succ]
          refine wpAnyH_take (i := 25) (oi := { dst := some 77, op := Op.move (Operand.tmp 9), type := 22, pos := "law.go:122", after := #[{ on := 24, ground := Ground.guard }], guard := some (24, true) }) (v := ?v25t4) rfl (by kernel_rfl) (by kernel_rfl) (by kernel_rfl) (fun _ _ _ h => h) (Or.inl ⟨by rfl, ?hy25t4⟩) (by exact hHeld) ?_
          case hy25t4 => (intro w hSw; (try dsimp only at hSw); go_simp; try (with_reducible rfl))
          try simp only [Act.put, List.setIfInBounds_toArray, List.set_cons_zero, List.set_cons_succ]
          refine wpAnyH_take (i := 26) (oi := { dst := some 78, op := Op.call { callee := Callee.builtin Builtin.len, args := #[Operand.tmp 77], argTypes := #[22] }, type := 3, pos := "law.go:122", after := #[{ on := 25, ground := Ground.data }, { on := 24, ground := Ground.guard }], guard := some (24, true) }) (v := ?v26t4) rfl (by kernel_rfl) (by kernel_rfl) (by kernel_rfl) (fun _ _ _ h => h) (Or.inl ⟨by rfl, ?hy26t4⟩) (by exact hHeld) ?_
          case hy26t4 => (intro w hSw; (try dsimp only at hSw); go_simp; try (with_reducible rfl))
          try simp only [Act.put, List.setIfInBounds_toArray, List.set_cons_zero, List.set_cons_succ]
          refine wpAnyH_take (i := 27) (oi := { dst := some 79, op := Op.move (Operand.tmp 0), type := 22, pos := "law.go:122", after := #[{ on := 24, ground := Ground.guard }], guard := some (24, true) }) (v := ?v27t4) rfl (by kernel_rfl) (by kernel_rfl) (by kernel_rfl) (fun _ _ _ h => h) (Or.inl ⟨by rfl, ?hy27t4⟩) (by exact hHeld) ?_
          case hy27t4 => (intro w hSw; (try dsimp only at hSw); go_simp; try (with_reducible rfl))
          try simp only [Act.put, List.setIfInBounds_toArray, List.set_cons_zero, List.set_cons_succ]
          refine wpAnyH_take (i := 28) (oi := { dst := some 80, op := Op.call { callee := Callee.builtin Builtin.len, args := #[Operand.tmp 79], argTypes := #[22] }, type := 3, pos := "law.go:122", after := #[{ on := 27, ground := Ground.data }, { on := 24, ground := Ground.guard }], guard := some (24, true) }) (v := ?v28t4) rfl (by kernel_rfl) (by kernel_rfl) (by kernel_rfl) (fun _ _ _ h => h) (Or.inl ⟨by rfl, ?hy28t4⟩) (by exact hHeld) ?_
          case hy28t4 => (intro w hSw; (try dsimp only at hSw); go_simp; try (with_reducible rfl))
          try simp only [Act.put, List.setIfInBounds_toArray, List.set_cons_zero, List.set_cons_succ]
          refine wpAnyH_take (i := 29) (oi := { dst := some 81, op := Op.binOp BinOp.neq 3 (Operand.tmp 78) (Operand.tmp 80) 3, type := 4, pos := "law.go:122", after := #[{ on := 26, ground := Ground.data }, { on := 28, ground := Ground.data }, { on := 24, ground := Ground.guard }], guard := some (24, true) }) (v := ?v29t4) rfl (by kernel_rfl) (by kernel_rfl) (by kernel_rfl) (fun _ _ _ h => h) (Or.inl ⟨by rfl, ?hy29t4⟩) (by exact hHeld) ?_
          case hy29t4 => (intro w hSw; (try dsimp only at hSw); go_simp; try (with_reducible rfl))
          try simp only [Act.put, List.setIfInBounds_toArray, List.set_cons_zero, List.set_cons_succ]
          refine wpAnyH_take (i := 30) (oi := { dst := some 82, op := Op.move (Operand.tmp 81), type := 4, pos := "law.go:122", after := #[{ on := 29, ground := Ground.data }, { on := 24, ground := Ground.chain }, { on := 24, ground := Ground.guard }], guard := some (24, true) }) (v := ?v30t4) rfl (by kernel_rfl) (by kernel_rfl) (by kernel_rfl) (fun _ _ _ h => h) (Or.inl ⟨by rfl, ?hy30t4⟩) (by exact hHeld) ?_
          case hy30t4 => (intro w hSw; (try dsimp only at hSw); go_simp; try (with_reducible rfl))
          try simp only [Act.put, List.setIfInBounds_toArray, List.set_cons_zero, List.set_cons_succ]
          refine wpAnyH_take (i := 31) (oi := { dst := some 83, op := Op.move (Operand.tmp 9), type := 22, pos := "law.go:122", after := #[{ on := 30, ground := Ground.guard }], guard := some (30, false) }) (v := ?v31t4) rfl (by kernel_rfl) (by kernel_rfl) (by kernel_rfl) (fun _ _ _ h => h) (Or.inl ⟨by rfl, ?hy31t4⟩) (by exact hHeld) ?_
          case hy31t4 => (intro w hSw; (try dsimp only at hSw); go_simp; try (with_reducible rfl))
          try simp only [Act.put, List.setIfInBounds_toArray, List.set_cons_zero, List.set_cons_succ]
          refine wpAnyH_take (i := 32) (oi := { dst := some 84, op := Op.move (Operand.tmp 13), type := 3, pos := "law.go:122", after := #[{ on := 30, ground := Ground.guard }], guard := some (30, false) }) (v := ?v32t4) rfl (by kernel_rfl) (by kernel_rfl) (by kernel_rfl) (fun _ _ _ h => h) (Or.inl ⟨by rfl, ?hy32t4⟩) (by exact hHeld) ?_
          case hy32t4 => (intro w hSw; (try dsimp only at hSw); go_simp; try (with_reducible rfl))
          try simp only [Act.put, List.setIfInBounds_toArray, List.set_cons_zero, List.set_cons_succ]
          refine wpAnyH_take (i := 33) (oi := { dst := some 85, op := Op.indexAddr 22 (Operand.tmp 83) (Operand.tmp 84), type := 0, pos := "law.go:122", after := #[{ on := 31, ground := Ground.data }, { on := 32, ground := Ground.data }, { on := 30, ground := Ground.guard }], guard := some (30, false) }) (v := ?v33t4) rfl (by kernel_rfl) (by kernel_rfl) (by kernel_rfl) (fun _ _ _ h => h) (Or.inl ⟨by rfl, ?hy33t4⟩) (by exact hHeld) ?_
          case hy33t4 => (intro w hSw; (try dsimp only at hSw); go_simp; try (with_reducible rfl))
          try simp only [Act.put, List.setIfInBounds_toArray, List.set_cons_zero, List.set_cons_succ]
          refine wpAnyH_take (i := 34) (oi := { dst := some 86, op := Op.load 60 (Operand.tmp 85), type := 60, pos := "law.go:122", after := #[{ on := 33, ground := Ground.data }, { on := 30, ground := Ground.guard }], guard := some (30, false) }) (v := .agg Bb.toArray) rfl (by kernel_rfl) (by kernel_rfl) (by kernel_rfl) (fun _ _ _ h => h) (yieldsIf_load_mid (by rfl) 60 (.tmp 85) rfl (gb) (i * 4) (by rfl) Bb _ (fun _ h => h.2.1) Try.underlying60 rfl (unhide HIb)) (by exact hHeld) ?_
          try simp only [Act.put, List.setIfInBounds_toArray, List.set_cons_zero, List.set_cons_succ]
          refine wpAnyH_take (i := 35) (oi := { dst := some 87, op := Op.move (Operand.tmp 0), type := 22, pos := "law.go:122", after := #[{ on := 30, ground := Ground.guard }], guard := some (30, false) }) (v := ?v35t4) rfl (by kernel_rfl) (by kernel_rfl) (by kernel_rfl) (fun _ _ _ h => h) (Or.inl ⟨by rfl, ?hy35t4⟩) (by exact hHeld) ?_
          case hy35t4 => (intro w hSw; (try dsimp only at hSw); go_simp; try (with_reducible rfl))
          try simp only [Act.put, List.setIfInBounds_toArray, List.set_cons_zero, List.set_cons_succ]
          refine wpAnyH_take (i := 36) (oi := { dst := some 88, op := Op.move (Operand.tmp 13), type := 3, pos := "law.go:122", after := #[{ on := 30, ground := Ground.guard }], guard := some (30, false) }) (v := ?v36t4) rfl (by kernel_rfl) (by kernel_rfl) (by kernel_rfl) (fun _ _ _ h => h) (Or.inl ⟨by rfl, ?hy36t4⟩) (by exact hHeld) ?_
          case hy36t4 => (intro w hSw; (try dsimp only at hSw); go_simp; try (with_reducible rfl))
          try simp only [Act.put, List.setIfInBounds_toArray, List.set_cons_zero, List.set_cons_succ]
          refine wpAnyH_take (i := 37) (oi := { dst := some 89, op := Op.indexAddr 22 (Operand.tmp 87) (Operand.tmp 88), type := 0, pos := "law.go:122", after := #[{ on := 35, ground := Ground.data }, { on := 36, ground := Ground.data }, { on := 30, ground := Ground.guard }], guard := some (30, false) }) (v := ?v37t4) rfl (by kernel_rfl) (by kernel_rfl) (by kernel_rfl) (fun _ _ _ h => h) (Or.inl ⟨by rfl, ?hy37t4⟩) (by exact hHeld) ?_
          case hy37t4 => (intro w hSw; (try dsimp only at hSw); go_simp; try (with_reducible rfl))
          try simp only [Act.put, List.setIfInBounds_toArray, List.set_cons_zero, List.set_cons_succ]
          refine wpAnyH_take (i := 38) (oi := { dst := some 90, op := Op.load 60 (Operand.tmp 89), type := 60, pos := "law.go:122", after := #[{ on := 37, ground := Ground.data }, { on := 30, ground := Ground.guard }], guard := some (30, false) }) (v := .agg BL.toArray) rfl (by kernel_rfl) (by kernel_rfl) (by kernel_rfl) (fun _ _ _ h => h) (yieldsIf_load_mid (by rfl) 60 (.tmp 89) rfl (gl) (ol + i * 4) (by rfl) BL _ (fun _ h => h.1) Try.underlying60 rfl (unhide HIl)) (by exact hHeld) ?_
          try simp only [Act.put, List.setIfInBounds_toArray, List.set_cons_zero, List.set_cons_succ]
          refine wpAnyH_ready (rs := [39]) (by kernel_rfl) (by simp) ?_
          refine AllReadyH.cons (o := { dst := some 91, op := Op.call { callee := Callee.value (Operand.func 17), args := #[Operand.tmp 86, Operand.tmp 90], argTypes := #[60, 60] }, type := 4, pos := "law.go:122", after := #[{ on := 34, ground := Ground.data }, { on := 38, ground := Ground.data }, { on := 30, ground := Ground.chain }, { on := 30, ground := Ground.guard }], guard := some (30, false) }) rfl (fun K hK => ?_) AllReadyH.nil
          go_simp
          refine (unhide Kb _ (Below.refl wr.heap.size wr).drew).mono ?_
          rintro e y1 ⟨rfl, bb1⟩
          have cc1 := bw_tr (Below.refl wr.heap.size wr).drew bb1
          have SS1 : y1.rangeAt gl (ol + i * 4) BL ∧ y1.rangeAt gb (i * 4) Bb ∧ y1.rangeAt gc (i * 4) Bc := ⟨unhide RL _ cc1, unhide Rb _ cc1, unhide Rc _ cc1⟩
          go_wp2_with fail
          refine hK.out _ _ SS1 (fun _ => ?_)
          clear hK K
          try simp only [Act.put, List.setIfInBounds_toArray, List.set_cons_zero, List.set_cons_succ]
          refine wpAnyH_take (i := 40) (oi := { dst := some 92, op := Op.unOp UnOp.not 4 (Operand.tmp 91), type := 4, pos := "law.go:122", after := #[{ on := 39, ground := Ground.data }, { on := 30, ground := Ground.guard }], guard := some (30, false) }) (v := ?v40t4) rfl (by kernel_rfl) (by kernel_rfl) (by kernel_rfl) (fun _ _ _ h => h) (Or.inl ⟨by rfl, ?hy40t4⟩) (by exact SS1) ?_
          case hy40t4 => (intro w hSw; (try dsimp only at hSw); go_simp; try (with_reducible rfl))
          try simp only [Act.put, List.setIfInBounds_toArray, List.set_cons_zero, List.set_cons_succ]
          refine wpAnyH_take (i := 41) (oi := { dst := some 93, op := Op.pick (Operand.tmp 82) (Operand.const (Value.bool true)) (Operand.tmp 92), type := 4, pos := "law.go:122", after := #[{ on := 30, ground := Ground.data }, { on := 40, ground := Ground.data }, { on := 24, ground := Ground.guard }], guard := some (24, true) }) (v := ?v41t4) rfl (by kernel_rfl) (by kernel_rfl) (by kernel_rfl) (fun _ _ _ h => h) (Or.inl ⟨by rfl, ?hy41t4⟩) (by exact SS1) ?_
          case hy41t4 => (intro w hSw; (try dsimp only at hSw); go_simp; try (with_reducible rfl))
          try simp only [Act.put, List.setIfInBounds_toArray, List.set_cons_zero, List.set_cons_succ]
          refine wpAnyH_take (i := 42) (oi := { dst := some 94, op := Op.pick (Operand.tmp 76) (Operand.tmp 93) (Operand.const (Value.bool false)), type := 4, pos := "law.go:122", after := #[{ on := 24, ground := Ground.data }, { on := 41, ground := Ground.data }, { on := 21, ground := Ground.guard }], guard := some (21, false) }) (v := ?v42t4) rfl (by kernel_rfl) (by kernel_rfl) (by kernel_rfl) (fun _ _ _ h => h) (Or.inl ⟨by rfl, ?hy42t4⟩) (by exact SS1) ?_
          case hy42t4 => (intro w hSw; (try dsimp only at hSw); go_simp; try (with_reducible rfl))
          try simp only [Act.put, List.setIfInBounds_toArray, List.set_cons_zero, List.set_cons_succ]
          refine wpAnyH_take (i := 43) (oi := { dst := some 95, op := Op.pick (Operand.tmp 73) (Operand.const (Value.bool true)) (Operand.tmp 94), type := 4, pos := "law.go:122", after := #[{ on := 21, ground := Ground.data }, { on := 42, ground := Ground.data }], guard := none }) (v := ?v43t4) rfl (by kernel_rfl) (by kernel_rfl) (by kernel_rfl) (fun _ _ _ h => h) (Or.inl ⟨by rfl, ?hy43t4⟩) (by exact SS1) ?_
          case hy43t4 => (intro w hSw; (try dsimp only at hSw); go_simp; try (with_reducible rfl))
          try simp only [Act.put, List.setIfInBounds_toArray, List.set_cons_zero, List.set_cons_succ]
          refine wpAnyH_take (i := 44) (oi := { dst := some 96, op := Op.move (Operand.tmp 95), type := 4, pos := "law.go:122", after := #[{ on := 43, ground := Ground.data }, { on := 39, ground := Ground.chain }], guard := none }) (v := ?v44t4) rfl (by kernel_rfl) (by kernel_rfl) (by kernel_rfl) (fun _ _ _ h => h) (Or.inl ⟨by rfl, ?hy44t4⟩) (by exact SS1) ?_
          case hy44t4 => (intro w hSw; (try dsimp only at hSw); go_simp; try (with_reducible rfl))
          try simp only [Act.put, List.setIfInBounds_toArray, List.set_cons_zero, List.set_cons_succ]
          refine wpAnyH_take (i := 45) (oi := { dst := some 97, op := Op.move (Operand.tmp 12), type := 28, pos := "law.go:122", after := #[{ on := 44, ground := Ground.guard }], guard := some (44, false) }) (v := ?v45t4) rfl (by kernel_rfl) (by kernel_rfl) (by kernel_rfl) (fun _ _ _ h => h) (Or.inl ⟨by rfl, ?hy45t4⟩) (by exact SS1) ?_
          case hy45t4 => (intro w hSw; (try dsimp only at hSw); go_simp; try (with_reducible rfl))
          try simp only [Act.put, List.setIfInBounds_toArray, List.set_cons_zero, List.set_cons_succ]
          refine wpAnyH_take (i := 46) (oi := { dst := some 98, op := Op.binOp BinOp.eql 28 (Operand.tmp 97) (Operand.const (Value.int IntKind.i64 0)) 28, type := 4, pos := "law.go:122", after := #[{ on := 45, ground := Ground.data }, { on := 44, ground := Ground.guard }], guard := some (44, false) }) (v := ?v46t4) rfl (by kernel_rfl) (by kernel_rfl) (by kernel_rfl) (fun _ _ _ h => h) (Or.inl ⟨by rfl, ?hy46t4⟩) (by exact SS1) ?_
          case hy46t4 => (intro w hSw; (try dsimp only at hSw); go_simp; try (with_reducible rfl))
          try simp only [Act.put, List.setIfInBounds_toArray, List.set_cons_zero, List.set_cons_succ]
          refine wpAnyH_take (i := 47) (oi := { dst := some 99, op := Op.move (Operand.tmp 98), type := 4, pos := "law.go:122", after := #[{ on := 46, ground := Ground.data }, { on := 44, ground := Ground.chain }, { on := 44, ground := Ground.guard }], guard := some (44, false) }) (v := ?v47t4) rfl (by kernel_rfl) (by kernel_rfl) (by kernel_rfl) (fun _ _ _ h => h) (Or.inl ⟨by rfl, ?hy47t4⟩) (by exact SS1) ?_
          case hy47t4 => (intro w hSw; (try dsimp only at hSw); go_simp; try (with_reducible rfl))
          try simp only [Act.put, List.setIfInBounds_toArray, List.set_cons_zero, List.set_cons_succ]
          refine wpAnyH_take (i := 48) (oi := { dst := some 100, op := Op.move (Operand.tmp 11), type := 22, pos := "law.go:122", after := #[{ on := 47, ground := Ground.guard }], guard := some (47, true) }) (v := ?v48t4) rfl (by kernel_rfl) (by kernel_rfl) (by kernel_rfl) (fun _ _ _ h => h) (Or.inl ⟨by rfl, ?hy48t4⟩) (by exact SS1) ?_
          case hy48t4 => (intro w hSw; (try dsimp only at hSw); go_simp; try (with_reducible rfl))
          try simp only [Act.put, List.setIfInBounds_toArray, List.set_cons_zero, List.set_cons_succ]
          refine wpAnyH_take (i := 49) (oi := { dst := some 101, op := Op.call { callee := Callee.builtin Builtin.len, args := #[Operand.tmp 100], argTypes := #[22] }, type := 3, pos := "law.go:122", after := #[{ on := 48, ground := Ground.data }, { on := 47, ground := Ground.guard }], guard := some (47, true) }) (v := ?v49t4) rfl (by kernel_rfl) (by kernel_rfl) (by kernel_rfl) (fun _ _ _ h => h) (Or.inl ⟨by rfl, ?hy49t4⟩) (by exact SS1) ?_
          case hy49t4 => (intro w hSw; (try dsimp only at hSw); go_simp; try (with_reducible rfl))
          try simp only [Act.put, List.setIfInBounds_toArray, List.set_cons_zero, List.set_cons_succ]
          refine wpAnyH_take (i := 50) (oi := { dst := some 102, op := Op.move (Operand.tmp 0), type := 22, pos := "law.go:122", after := #[{ on := 47, ground := Ground.guard }], guard := some (47, true) }) (v := ?v50t4) rfl (by kernel_rfl) (by kernel_rfl) (by kernel_rfl) (fun _ _ _ h => h) (Or.inl ⟨by rfl, ?hy50t4⟩) (by exact SS1) ?_
          case hy50t4 => (intro w hSw; (try dsimp only at hSw); go_simp; try (with_reducible rfl))
          try simp only [Act.put, List.setIfInBounds_toArray, List.set_cons_zero, List.set_cons_succ]
          refine wpAnyH_take (i := 51) (oi := { dst := some 103, op := Op.call { callee := Callee.builtin Builtin.len, args := #[Operand.tmp 102], argTypes := #[22] }, type := 3, pos := "law.go:122", after := #[{ on := 50, ground := Ground.data }, { on := 47, ground := Ground.guard }], guard := some (47, true) }) (v := ?v51t4) rfl (by kernel_rfl) (by kernel_rfl) (by kernel_rfl) (fun _ _ _ h => h) (Or.inl ⟨by rfl, ?hy51t4⟩) (by exact SS1) ?_
          case hy51t4 => (intro w hSw; (try dsimp only at hSw); go_simp; try (with_reducible rfl))
          try simp only [Act.put, List.setIfInBounds_toArray, List.set_cons_zero, List.set_cons_succ]
          refine wpAnyH_take (i := 52) (oi := { dst := some 104, op := Op.binOp BinOp.neq 3 (Operand.tmp 101) (Operand.tmp 103) 3, type := 4, pos := "law.go:122", after := #[{ on := 49, ground := Ground.data }, { on := 51, ground := Ground.data }, { on := 47, ground := Ground.guard }], guard := some (47, true) }) (v := ?v52t4) rfl (by kernel_rfl) (by kernel_rfl) (by kernel_rfl) (fun _ _ _ h => h) (Or.inl ⟨by rfl, ?hy52t4⟩) (by exact SS1) ?_
          case hy52t4 => (intro w hSw; (try dsimp only at hSw); go_simp; try (with_reducible rfl))
          try simp only [Act.put, List.setIfInBounds_toArray, List.set_cons_zero, List.set_cons_succ]
          refine wpAnyH_take (i := 53) (oi := { dst := some 105, op := Op.move (Operand.tmp 104), type := 4, pos := "law.go:122", after := #[{ on := 52, ground := Ground.data }, { on := 47, ground := Ground.chain }, { on := 47, ground := Ground.guard }], guard := some (47, true) }) (v := ?v53t4) rfl (by kernel_rfl) (by kernel_rfl) (by kernel_rfl) (fun _ _ _ h => h) (Or.inl ⟨by rfl, ?hy53t4⟩) (by exact SS1) ?_
          case hy53t4 => (intro w hSw; (try dsimp only at hSw); go_simp; try (with_reducible rfl))
          try simp only [Act.put, List.setIfInBounds_toArray, List.set_cons_zero, List.set_cons_succ]
          refine wpAnyH_take (i := 54) (oi := { dst := some 106, op := Op.move (Operand.tmp 11), type := 22, pos := "law.go:122", after := #[{ on := 53, ground := Ground.guard }], guard := some (53, false) }) (v := ?v54t4) rfl (by kernel_rfl) (by kernel_rfl) (by kernel_rfl) (fun _ _ _ h => h) (Or.inl ⟨by rfl, ?hy54t4⟩) (by exact SS1) ?_
          case hy54t4 => (intro w hSw; (try dsimp only at hSw); go_simp; try (with_reducible rfl))
          try simp only [Act.put, List.setIfInBounds_toArray, List.set_cons_zero, List.set_cons_succ]
          refine wpAnyH_take (i := 55) (oi := { dst := some 107, op := Op.move (Operand.tmp 13), type := 3, pos := "law.go:122", after := #[{ on := 53, ground := Ground.guard }], guard := some (53, false) }) (v := ?v55t4) rfl (by kernel_rfl) (by kernel_rfl) (by kernel_rfl) (fun _ _ _ h => h) (Or.inl ⟨by rfl, ?hy55t4⟩) (by exact SS1) ?_
          case hy55t4 => (intro w hSw; (try dsimp only at hSw); go_simp; try (with_reducible rfl))
          try simp only [Act.put, List.setIfInBounds_toArray, List.set_cons_zero, List.set_cons_succ]
          refine wpAnyH_take (i := 56) (oi := { dst := some 108, op := Op.indexAddr 22 (Operand.tmp 106) (Operand.tmp 107), type := 0, pos := "law.go:122", after := #[{ on := 54, ground := Ground.data }, { on := 55, ground := Ground.data }, { on := 53, ground := Ground.guard }], guard := some (53, false) }) (v := ?v56t4) rfl (by kernel_rfl) (by kernel_rfl) (by kernel_rfl) (fun _ _ _ h => h) (Or.inl ⟨by rfl, ?hy56t4⟩) (by exact SS1) ?_
          case hy56t4 => (intro w hSw; (try dsimp only at hSw); go_simp; try (with_reducible rfl))
          try simp only [Act.put, List.setIfInBounds_toArray, List.set_cons_zero, List.set_cons_succ]
          refine wpAnyH_take (i := 57) (oi := { dst := some 109, op := Op.load 60 (Operand.tmp 108), type := 60, pos := "law.go:122", after := #[{ on := 56, ground := Ground.data }, { on := 53, ground := Ground.guard }], guard := some (53, false) }) (v := .agg Bc.toArray) rfl (by kernel_rfl) (by kernel_rfl) (by kernel_rfl) (fun _ _ _ h => h) (yieldsIf_load_mid (by rfl) 60 (.tmp 108) rfl (gc) (i * 4) (by rfl) Bc _ (fun _ h => h.2.2) Try.underlying60 rfl (unhide HIc)) (by exact SS1) ?_
          try simp only [Act.put, List.setIfInBounds_toArray, List.set_cons_zero, List.set_cons_succ]
          refine wpAnyH_take (i := 58) (oi := { dst := some 110, op := Op.move (Operand.tmp 0), type := 22, pos := "law.go:122", after := #[{ on := 53, ground := Ground.guard }], guard := some (53, false) }) (v := ?v58t4) rfl (by kernel_rfl) (by kernel_rfl) (by kernel_rfl) (fun _ _ _ h => h) (Or.inl ⟨by rfl, ?hy58t4⟩) (by exact SS1) ?_
          case hy58t4 => (intro w hSw; (try dsimp only at hSw); go_simp; try (with_reducible rfl))
          try simp only [Act.put, List.setIfInBounds_toArray, List.set_cons_zero, List.set_cons_succ]
          refine wpAnyH_take (i := 59) (oi := { dst := some 111, op := Op.move (Operand.tmp 13), type := 3, pos := "law.go:122", after := #[{ on := 53, ground := Ground.guard }], guard := some (53, false) }) (v := ?v59t4) rfl (by kernel_rfl) (by kernel_rfl) (by kernel_rfl) (fun _ _ _ h => h) (Or.inl ⟨by rfl, ?hy59t4⟩) (by exact SS1) ?_
          case hy59t4 => (intro w hSw; (try dsimp only at hSw); go_simp; try (with_reducible rfl))
          try simp only [Act.put, List.setIfInBounds_toArray, List.set_cons_zero, List.set_cons_succ]
          refine wpAnyH_take (i := 60) (oi := { dst := some 112, op := Op.indexAddr 22 (Operand.tmp 110) (Operand.tmp 111), type := 0, pos := "law.go:122", after := #[{ on := 58, ground := Ground.data }, { on := 59, ground := Ground.data }, { on := 53, ground := Ground.guard }], guard := some (53, false) }) (v := ?v60t4) rfl (by kernel_rfl) (by kernel_rfl) (by kernel_rfl) (fun _ _ _ h => h) (Or.inl ⟨by rfl, ?hy60t4⟩) (by exact SS1) ?_
          case hy60t4 => (intro w hSw; (try dsimp only at hSw); go_simp; try (with_reducible rfl))
          try simp only [Act.put, List.setIfInBounds_toArray, List.set_cons_zero, List.set_cons_succ]
          refine wpAnyH_take (i := 61) (oi := { dst := some 113, op := Op.load 60 (Operand.tmp 112), type := 60, pos := "law.go:122", after := #[{ on := 60, ground := Ground.data }, { on := 53, ground := Ground.guard }], guard := some (53, false) }) (v := .agg BL.toArray) rfl (by kernel_rfl) (by kernel_rfl) (by kernel_rfl) (fun _ _ _ h => h) (yieldsIf_load_mid (by rfl) 60 (.tmp 112) rfl (gl) (ol + i * 4) (by rfl) BL _ (fun _ h => h.1) Try.underlying60 rfl (unhide HIl)) (by exact SS1) ?_
          try simp only [Act.put, List.setIfInBounds_toArray, List.set_cons_zero, List.set_cons_succ]
          refine wpAnyH_ready (rs := [62]) (by kernel_rfl) (by simp) ?_
          refine AllReadyH.cons (o := { dst := some 114, op := Op.call { callee := Callee.value (Operand.func 17), args := #[Operand.tmp 109, Operand.tmp 113], argTypes := #[60, 60] }, type := 4, pos := "law.go:122", after := #[{ on := 57, ground := Ground.data }, { on := 61, ground := Ground.data }, { on := 53, ground := Ground.chain }, { on := 53, ground := Ground.guard }], guard := some (53, false) }) rfl (fun K hK => ?_) AllReadyH.nil
          go_simp
          refine (unhide Kc _ cc1).mono ?_
          rintro e y2 ⟨rfl, bb2⟩
          have cc2 := bw_tr cc1 bb2
          have SS2 : y2.rangeAt gl (ol + i * 4) BL ∧ y2.rangeAt gb (i * 4) Bb ∧ y2.rangeAt gc (i * 4) Bc := ⟨unhide RL _ cc2, unhide Rb _ cc2, unhide Rc _ cc2⟩
          go_wp2_with fail
          refine hK.out _ _ SS2 (fun _ => ?_)
          clear hK K
          try simp only [Act.put, List.setIfInBounds_toArray, List.set_cons_zero, List.set_cons_succ]
          refine wpAnyH_take (i := 63) (oi := { dst := some 115, op := Op.unOp UnOp.not 4 (Operand.tmp 114), type := 4, pos := "law.go:122", after := #[{ on := 62, ground := Ground.data }, { on := 53, ground := Ground.guard }], guard := some (53, false) }) (v := ?v63t4) rfl (by kernel_rfl) (by kernel_rfl) (by kernel_rfl) (fun _ _ _ h => h) (Or.inl ⟨by rfl, ?hy63t4⟩) (by exact SS2) ?_
          case hy63t4 => (intro w hSw; (try dsimp only at hSw); go_simp; try (with_reducible rfl))
          try simp only [Act.put, List.setIfInBounds_toArray, List.set_cons_zero, List.set_cons_succ]
          refine wpAnyH_take (i := 64) (oi := { dst := some 116, op := Op.pick (Operand.tmp 105) (Operand.const (Value.bool true)) (Operand.tmp 115), type := 4, pos := "law.go:122", after := #[{ on := 53, ground := Ground.data }, { on := 63, ground := Ground.data }, { on := 47, ground := Ground.guard }], guard := some (47, true) }) (v := ?v64t4) rfl (by kernel_rfl) (by kernel_rfl) (by kernel_rfl) (fun _ _ _ h => h) (Or.inl ⟨by rfl, ?hy64t4⟩) (by exact SS2) ?_
          case hy64t4 => (intro w hSw; (try dsimp only at hSw); go_simp; try (with_reducible rfl))
          try simp only [Act.put, List.setIfInBounds_toArray, List.set_cons_zero, List.set_cons_succ]
          refine wpAnyH_take (i := 65) (oi := { dst := some 117, op := Op.pick (Operand.tmp 99) (Operand.tmp 116) (Operand.const (Value.bool false)), type := 4, pos := "law.go:122", after := #[{ on := 47, ground := Ground.data }, { on := 64, ground := Ground.data }, { on := 44, ground := Ground.guard }], guard := some (44, false) }) (v := ?v65t4) rfl (by kernel_rfl) (by kernel_rfl) (by kernel_rfl) (fun _ _ _ h => h) (Or.inl ⟨by rfl, ?hy65t4⟩) (by exact SS2) ?_
          case hy65t4 => (intro w hSw; (try dsimp only at hSw); go_simp; try (with_reducible rfl))
          try simp only [Act.put, List.setIfInBounds_toArray, List.set_cons_zero, List.set_cons_succ]
          refine wpAnyH_take (i := 66) (oi := { dst := some 118, op := Op.pick (Operand.tmp 96) (Operand.const (Value.bool true)) (Operand.tmp 117), type := 4, pos := "law.go:122", after := #[{ on := 44, ground := Ground.data }, { on := 65, ground := Ground.data }], guard := none }) (v := ?v66t4) rfl (by kernel_rfl) (by kernel_rfl) (by kernel_rfl) (fun _ _ _ h => h) (Or.inl ⟨by rfl, ?hy66t4⟩) (by exact SS2) ?_
          case hy66t4 => (intro w hSw; (try dsimp only at hSw); go_simp; try (with_reducible rfl))
          try simp only [Act.put, List.setIfInBounds_toArray, List.set_cons_zero, List.set_cons_succ]
          refine wpAnyH_done (by kernel_rfl) ?_ _
          go_wp2_with fail
          go_roundw
          case rel => exact ⟨i + 1, rfl, by omega, bw_tr (unhide HB) cc2⟩
          case measure => simp only [intOf]; omega
      · obtain rfl : i = N := by omega
        clear hlt hiN h0i
        have KCb : Hid (∀ W', Below z6.heap.size z6 W' → Calls Try.prog 18 #[.slice (some ⟨gb, 0, none⟩) i cb] W' fun e w' => e = .returned (.int .i64 0) ∧ Below W'.heap.size W' w') := fun W' hW => by
          have := poCheck_any ((unhide Hb).1.bw hW) (unhide Hb).2.1.n
          rw [if_pos (mayX_iff.2 (unhide Hb).2.2.1)] at this
          exact this
        have KCc : Hid (∀ W', Below z6.heap.size z6 W' → Calls Try.prog 18 #[.slice (some ⟨gc, 0, none⟩) i cc] W' fun e w' => e = .returned (.int .i64 0) ∧ Below W'.heap.size W' w') := fun W' hW => by
          have := poCheck_any ((unhide Hc).1.bw hW) (unhide Hc).2.1.n
          rw [if_pos (mayX_iff.2 (unhide Hc).2.2.1)] at this
          exact this
        go_wp2_with fail
        refine (unhide KCb _ (unhide HB)).mono ?_
        rintro e u1 ⟨rfl, e1⟩
        have f1 := bw_tr (unhide HB) e1
        go_wp2_with fail
        refine (unhide KCc _ (f1)).mono ?_
        rintro e u2 ⟨rfl, e2⟩
        have f2 := bw_tr (f1) e2
        go_wp2_with fail
        refine (alive15_any u2).mono ?_
        rintro e u9 ⟨rfl, e9⟩
        go_wp2_with fail
        go_ret
        exact ⟨rfl, bw_tr (bw_tr (unhide HZ0) (bw_tr (f2) e9)) (Below.refl _ _)⟩
end Go.Proofs.Ytnimdnoemmodaaa
